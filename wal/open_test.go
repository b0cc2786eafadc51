package wal_test

import (
	"fmt"
	"math"
	"slices"
	"strings"
	"testing"

	"freshet/api"
	"freshet/disk"
	"freshet/wal"
)

// The chapter's examples: P7.1 to P7.3, P7.5.
func TestExamples(t *testing.T) {
	d := newDisk(t, 1000)
	l := isOpen(t, "a new disk", d, 1, 1, 1)
	isFiles(t, "a new disk", d, file{"log-00000001", "\x01\x01\xa6\x6c\xa8\x10"})
	first, second := of(1, put("a", "x")), of(2, del("a"))
	isAll(t, "the example", l.Append(first), l.Sync(), l.Append(second))
	d.Crash(nil)
	l = isOpen(t, "behind the crash", d, 1, 2, 2, first)
	isRotate(t, "behind the crash", l, 3, api.OK)
	d = newDisk(t, 1000, file{"log-00000001", segment(1, first)})
	isOpen(t, "log-00000001 alone", d, 2, 2, 1)
	isFiles(t, "log-00000001 alone", d, file{"log-00000001", segment(1, first)}, file{"log-00000002", segment(2)})
	d = newDisk(t, 1000, file{"log-00000002", segment(2)})
	isShut(t, "log-00000002 alone", d, 1, api.ErrCorrupt)
}

// downDisk returns a disk that is down, with a segment.
func downDisk(t *testing.T) *disk.Disk {
	t.Helper()
	d := newDisk(t, 1000, file{name(1), segment(1)})
	d.Fuse(1)
	d.SyncDir()
	return d
}

// P7.1: no disk, one that nobody made, and one that is down, whatever from is.
func TestOpenWithoutDisk(t *testing.T) {
	for _, from := range []int{1, 2, 99999000, 0, -1, 99999001, math.MaxInt, math.MinInt} {
		isShut(t, "a nil disk", nil, from, api.ErrNil)
		isShut(t, "a disk that nobody made", &disk.Disk{}, from, api.ErrNil)
		isShut(t, "the nil disk that New returned", func() *disk.Disk { d, _ := disk.New(-1); return d }(), from, api.ErrNil)
		isShut(t, "a disk that is down", downDisk(t), from, api.ErrDown)
	}
}

// P7.1: from at its edges and beyond them, also ahead of segments that are no good.
func TestOpenFrom(t *testing.T) {
	for _, from := range []int{1, 2, 9, 10, 127, 128, 300, 9999999, 10000000, 12345678, 99998999, 99999000} {
		d := newDisk(t, 1000)
		isOpen(t, "an empty disk", d, from, from, 1)
		isFiles(t, fmt.Sprint("Open from ", from), d, file{name(from), segment(from)})
		if d.Steps() != 1+4 {
			t.Errorf("Open from %d took %d steps, want 4", from, d.Steps()-1)
		}
		isLike(t, "Open is durable", func() *disk.Disk { c := d.Copy(); c.Crash(nil); return c }(), d)
	}
	for _, from := range []int{0, -1, -2, 99999001, 99999002, 99999998, 99999999, 100000000, 1 << 32, 1<<32 + 1, -1 << 32, 1 - 1<<32, math.MaxInt, math.MinInt, math.MinInt + 1} {
		isShut(t, "an empty disk", newDisk(t, 1000), from, api.ErrArg)
		isShut(t, "a segment", newDisk(t, 1000, file{name(1), segment(1)}), from, api.ErrArg)
		isShut(t, "a wrong segment", newDisk(t, 1000, file{name(1), "\x00"}, file{name(99999999), "\x00"}), from, api.ErrArg)
		isShut(t, "a full disk", newDisk(t, 0), from, api.ErrArg)
	}
}

// others are names that are nearly a segment's, and some that are not.
func others() []file {
	var l []file
	for _, name := range []string{
		"log-0000001", "log-000000001", "log-1", "log-", "log", "log-00000000", "log-0000000a", "log--0000001", "log--1", "log-0000001-", "log-.0000001", "log-0000001.", "log-0000.001", "log-0000-001",
		"log-00000001.", "log-00000001-", "log-00000001.new", "log-000000010", "log-0x000001", "log-0b000001", "log-1e000000", "log-0e000001", "log-a0000001", "log-.", "log-100000000", "log-100000001", "log-999999999", "log-4294967297", "log-18446744073709551617", "log-99999999999999999999999",
		"log00000001", "log.00000001", "lok-00000001", "mog-00000001", "log--00000001", "log-log-00000001", "alog-00000001", "-log-00000001", ".log-00000001", "00000001", "000000000001", "log000000001", "-00000001", "g-00000001", "1", "0",
		"man-00000001", "tab-00000001", "current", "current.new", "a",
	} {
		l = append(l, file{name, "any\x00bytes of " + name})
	}
	return l
}

// P7.1, P7.4: other files are neither read nor removed.
func TestOtherFiles(t *testing.T) {
	first, second := of(1, put("a", "x")), of(2, del("a"))
	for _, f := range others() {
		d := newDisk(t, 10000, f)
		l := isOpen(t, f.name, d, 1, 1, 1)
		isAll(t, f.name, l.Append(first))
		isRotate(t, f.name, l, 2, api.OK)
		isAll(t, f.name, l.Append(second), l.Retire(1))
		isOpen(t, f.name, d, 1, 3, 3, first, second)
		isAll(t, f.name, l.Retire(math.MaxInt))
		if got, e := d.Read(f.name); got != f.bytes || e != api.OK {
			t.Errorf("%s is %q, %v behind Retire", f.name, got, e)
		}
		if want := []string{f.name, name(2)}; len(d.Names()) != len(want) {
			t.Errorf("%s: Retire leaves %q, want %q", f.name, d.Names(), want)
		}
	}
	d := newDisk(t, 100000, others()...)
	isOpen(t, "all other files", d, 1, 1, 1)
	isShut(t, "an empty name in between", newDisk(t, 100, file{name(2), segment(2)}, file{"log-0000001", segment(1)}), 1, api.ErrCorrupt)
}

// three are the files of three segments with batches, numbered from number on.
func three(number int) (files []file, batches []api.Batch) {
	batches = []api.Batch{
		of(1, put("a", "x"), del("b")), of(3, put("c", "")), of(7, del("\x00\xff")),
		of(8, put("a", strings.Repeat("long", 50)), put("a", "y"), put("b", "z")), of(300, del("a")),
	}
	for i, l := range [][]api.Batch{batches[:3], nil, batches[3:]} {
		files = append(files, file{name(number + i), segment(number+i, l...)})
	}
	return files, batches
}

// P7.1: the segments from from on are read, the ones below it are not.
func TestOpenReads(t *testing.T) {
	for _, number := range []int{1, 8, 98, 99998998} {
		all, batches := three(number)
		d := newDisk(t, 2000, all...)
		isOpen(t, "three segments", d.Copy(), number, number+3, 301, batches...)
		isOpen(t, "three segments, from the second", d.Copy(), number+1, number+3, 301, batches[3:]...)
		isOpen(t, "three segments, from the third", d.Copy(), number+2, number+3, 301, batches[3:]...)
		if from := number + 3; from <= 99999000 {
			isOpen(t, "three segments, from behind them", d.Copy(), from, from, 1)
		}
		isShut(t, "three segments, with a gap ahead", d, number-1, errorOf(number > 1, api.ErrCorrupt, api.ErrArg))
		isOpen(t, "three segments", d, number, number+3, 301, batches...)
		isFiles(t, "three segments", d, slices.Concat(all, []file{{name(number + 3), segment(number + 3)}})...)
		isOpen(t, "three segments, again", d, number, number+4, 301, batches...)
		bad := append([]file{{name(max(number-1, 1)), "\x00"}}, all[1:]...)
		isOpen(t, "a wrong segment below", newDisk(t, 2000, bad...), number+1, number+3, 301, batches[3:]...)
	}
}

// errorOf returns a if ok, else b.
func errorOf(ok bool, a, b api.Errno) api.Errno {
	if ok {
		return a
	}
	return b
}

// P7.1: segments that are missing at the beginning or in between.
func TestOpenMissingSegments(t *testing.T) {
	for _, x := range []struct {
		numbers []int
		from    int
		e       api.Errno
	}{
		{[]int{2}, 1, api.ErrCorrupt}, {[]int{2, 3}, 1, api.ErrCorrupt}, {[]int{3}, 1, api.ErrCorrupt}, {[]int{99999999}, 1, api.ErrCorrupt}, {[]int{99999999}, 99999000, api.ErrCorrupt},
		{[]int{1, 3}, 1, api.ErrCorrupt}, {[]int{1, 2, 4}, 1, api.ErrCorrupt}, {[]int{1, 2, 3, 5, 6}, 1, api.ErrCorrupt}, {[]int{1, 4}, 2, api.ErrCorrupt}, {[]int{1, 10}, 1, api.ErrCorrupt}, {[]int{1, 11}, 1, api.ErrCorrupt},
		{[]int{1, 3}, 2, api.ErrCorrupt}, {[]int{1, 3}, 3, api.OK}, {[]int{1, 3}, 4, api.OK}, {[]int{1, 2, 4}, 4, api.OK}, {[]int{9, 10, 11}, 9, api.OK}, {[]int{9, 10, 12}, 9, api.ErrCorrupt},
		{[]int{99, 100}, 99, api.OK}, {[]int{9, 99, 100}, 99, api.OK}, {[]int{99, 100, 1000}, 99, api.ErrCorrupt}, {[]int{1, 3, 5}, 6, api.OK},
	} {
		var l []file
		for _, n := range x.numbers {
			l = append(l, file{name(n), segment(n)})
		}
		d := newDisk(t, 1000, l...)
		what := fmt.Sprint("segments ", x.numbers)
		if x.e != api.OK {
			isShut(t, what, d, x.from, x.e)
			continue
		}
		isOpen(t, what, d, x.from, max(x.from, x.numbers[len(x.numbers)-1]+1), 1)
	}
}

// P7.1: wrong segments, as the first, as one in between, and as the last of three.
func TestOpenWrongSegments(t *testing.T) {
	good := of(400, put("a", "x"))
	for _, x := range []struct {
		what string
		make func(number int) string
	}{
		{"the next number in the head", func(n int) string { return segment(n + 1) }},
		{"the previous number in the head", func(n int) string { return segment(n - 1) }},
		{"0 in the head", func(n int) string { return segment(0) }},
		{"another number in the head, and batches", func(n int) string { return segment(n+256, good) }},
		{"a number 2^32 higher in the head", func(n int) string { return segment(n + 1<<32) }},
		{"an empty head", func(n int) string { return framed("") }},
		{"a head with a byte behind the number", func(n int) string { return framed(short(uint64(n)) + "\x00") }},
		{"a head that isn't the shortest", func(n int) string { return framed(string([]byte{byte(n) | 128, 0})) }},
		{"a head in digits", func(n int) string { return framed(name(n)[4:]) }},
		{"a head of the name", func(n int) string { return framed(name(n)) }},
		{"a batch in place of the head", func(n int) string { return framedBatch(good) }},
		{"a batch ahead of the head", func(n int) string { return framedBatch(good) + framedHead(n) }},
		{"two heads", func(n int) string { return framedHead(n) + framedHead(n) }},
		{"a head behind a batch", func(n int) string { return segment(n, good) + framedHead(n) }},
		{"an empty frame", func(n int) string { return segment(n) + framed("") }},
		{"an empty frame behind a batch", func(n int) string { return segment(n, good) + framed("") }},
		{"an empty frame ahead of a batch", func(n int) string { return segment(n) + framed("") + framedBatch(good) }},
		{"a batch without writes", func(n int) string { return segment(n, of(400)) }},
		{"a batch of Seq 0", func(n int) string { return segment(n, of(0, put("a", "x"))) }},
		{"a batch of the least Seq that is too great", func(n int) string { return segment(n, of(1<<56-63, put("a", "x"))) }},
		{"a batch with an empty key", func(n int) string { return segment(n, of(400, put("", "x"))) }},
		{"a batch of kind 3", func(n int) string { return segment(n, of(400, api.Write{Kind: 3, Key: "a"})) }},
		{"a batch that is cut", func(n int) string { return segment(n) + framed("\x90\x03\x01\x01\x01a\x02x") }},
		{"a batch with a byte behind it", func(n int) string { return segment(n) + framed("\x90\x03\x01\x01\x01a\x01x\x00") }},
		{"a wrong length of a head", func(n int) string { return "\x80\x00" + segment(n) }},
		{"a wrong length of a batch", func(n int) string { return segment(n, good) + "\x80\x00" }},
		{"a length that is too great", func(n int) string { return segment(n) + "\x81\x80\x04" }},
		{"a head that is too long", func(n int) string { return "\x81\x80\x04" }},
		{"a head with a wrong checksum", func(n int) string { return framedHead(n)[:2] + "\x00\x00\x00\x00" }},
		{"zeros", func(n int) string { return strings.Repeat("\x00", 10) }},
		{"zeros behind a batch", func(n int) string { return segment(n, good) + strings.Repeat("\x00", 10) }},
		{"text", func(n int) string { return strings.Repeat("text", 50) }},
	} {
		for at := range 3 {
			for _, number := range []int{1, 5, 60} {
				all, _ := three(number)
				all[at].bytes = x.make(number + at)
				isShut(t, fmt.Sprint(x.what, " in segment ", at), newDisk(t, 2000, all...), number, api.ErrCorrupt)
			}
		}
	}
}

// P7.1: a segment may end with an incomplete frame, the head too, wherever it is among the segments.
func TestOpenCutSegments(t *testing.T) {
	all, batches := three(300)
	ends := []int{0, len(segment(300)), len(segment(300, batches[:1]...)), len(segment(300, batches[:2]...))}
	for size := range len(all[0].bytes) {
		// The first segment is cut: the batches that are complete remain, and those of the others.
		many := 0
		for many+1 < len(ends)-1 && size >= ends[many+2] {
			many++
		}
		cut := []file{{name(300), all[0].bytes[:size]}, all[1], all[2]}
		want := append(batches[:many:many], batches[3:]...)
		isOpen(t, fmt.Sprint("the first segment cut at ", size), newDisk(t, 2000, cut...), 300, 303, 301, want...)
		isOpen(t, fmt.Sprint("one segment cut at ", size), newDisk(t, 2000, cut[0]), 300, 301, next(batches[:many]), batches[:many]...)
	}
	for size := range len(all[2].bytes) {
		cut := []file{all[0], all[1], {name(302), all[2].bytes[:size]}}
		want := batches[:3]
		if size >= len(segment(302, batches[3])) {
			want = batches[:4]
		}
		isOpen(t, fmt.Sprint("the last segment cut at ", size), newDisk(t, 2000, cut...), 300, 303, next(want), want...)
	}
	for size := range len(all[1].bytes) {
		cut := []file{all[0], {name(301), all[1].bytes[:size]}, all[2]}
		isOpen(t, fmt.Sprint("the second segment cut at ", size), newDisk(t, 2000, cut...), 300, 303, 301, batches...)
	}
	// What can go on as a frame is one that is incomplete, whatever stands in it.
	for _, tail := range []string{"\x05", "\x80", "\xff\xff", "\x80\x80\x04", "\x80\x80\x04abc", "\x02ab\x00\x00\x00", "\x00\x00\x00\x00"} {
		isOpen(t, "an incomplete frame", newDisk(t, 100, file{name(1), segment(1, batches[0]) + tail}), 1, 2, 3, batches[0])
		isOpen(t, "an incomplete head", newDisk(t, 100, file{name(1), tail}), 1, 2, 1)
	}
}

// next is the lowest Seq behind these batches.
func next(l []api.Batch) uint64 {
	if len(l) == 0 {
		return 1
	}
	last := l[len(l)-1]
	return last.Seq + uint64(len(last.List))
}

// P7.1: a Seq below next, in one segment and from one to the following one; one that is not below it.
func TestOpenSeqs(t *testing.T) {
	two, one := []api.Write{put("a", "x"), del("b")}, []api.Write{put("c", "y")}
	for _, x := range []struct {
		first, second api.Batch
		ok            bool
	}{
		{of(1, one...), of(1, one...), false}, {of(1, one...), of(2, one...), true}, {of(1, one...), of(3, one...), true}, {of(1, one...), of(1<<56-64, one...), true},
		{of(1, two...), of(1, two...), false}, {of(1, two...), of(2, one...), false}, {of(1, two...), of(3, one...), true}, {of(1, two...), of(4, two...), true},
		{of(300, two...), of(301, two...), false}, {of(300, two...), of(302, two...), true}, {of(300, two...), of(1, two...), false}, {of(300, two...), of(299, one...), false},
		{of(1<<56-64, one...), of(1<<56-64, one...), false}, {of(1<<56-66, two...), of(1<<56-65, one...), false}, {of(1<<56-66, two...), of(1<<56-64, two...), true}, {of(1<<56-65, two...), of(1<<56-64, two...), false},
	} {
		what := fmt.Sprint("Seqs ", x.first.Seq, " and ", x.second.Seq, " behind ", len(x.first.List))
		within := []file{{name(1), segment(1, x.first, x.second)}}
		across := []file{{name(1), segment(1, x.first)}, {name(2), segment(2, x.second)}}
		apart := []file{{name(1), segment(1, x.first)}, {name(2), segment(2)}, {name(3), ""}, {name(4), segment(4, x.second) + "\x05"}}
		for _, l := range [][]file{within, across, apart} {
			if d := newDisk(t, 1000, l...); x.ok {
				isOpen(t, what, d, 1, len(l)+1, next([]api.Batch{x.second}), x.first, x.second)
			} else {
				isShut(t, what, d, 1, api.ErrCorrupt)
			}
		}
		isOpen(t, what, newDisk(t, 1000, across...), 2, 3, next([]api.Batch{x.second}), x.second)
	}
}

// numbered returns a disk with segments, all of these numbers.
func numbered(t *testing.T, from, last int) *disk.Disk {
	t.Helper()
	var l []file
	for n := from; n <= last; n++ {
		l = append(l, file{name(n), segment(n)})
	}
	return newDisk(t, 100000, l...)
}

// P7.1, P7.3: a last segment with the greatest number there is, at Open and at Rotate.
func TestGreatestNumber(t *testing.T) {
	full := numbered(t, 99999000, 99999999)
	isShut(t, "the greatest number", full, 99999000, api.ErrLong)
	isShut(t, "the greatest number, far from the others", newDisk(t, 100, file{name(1), segment(1)}, file{name(99999999), segment(99999999)}), 1, api.ErrCorrupt)
	full.Fuse(1)
	isShut(t, "the greatest number, at the fuse", full, 99999000, api.ErrLong)
	full.Fuse(0)
	lay(t, full, file{name(99999999), segment(1)})
	isShut(t, "the greatest number, wrong", full, 99999000, api.ErrCorrupt)
	d := numbered(t, 99999000, 99999998)
	l := isOpen(t, "the greatest number but one", d, 99999000, 99999999, 1)
	for range 3 {
		before := d.Copy()
		isRotate(t, "the greatest number", l, 0, api.ErrLong)
		isLike(t, "the greatest number", d, before)
		isAt(t, "the greatest number", l, 99999999, 1)
	}
	isAll(t, "the greatest number", l.Append(of(5, put("a", "x"))), l.Sync(), l.Retire(99999999))
	isFiles(t, "the greatest number", d, file{name(99999999), segment(99999999, of(5, put("a", "x")))})
	d.Fuse(1)
	if e := l.Sync(); e != api.ErrDown {
		t.Errorf("Sync at the fuse: %v", e)
	}
	isRotate(t, "the greatest number, on a disk that is down", l, 0, api.ErrLong)
	l = isOpen(t, "near the greatest number", newDisk(t, 100000), 99999000, 99999000, 1)
	for n := 99999001; n <= 99999999; n++ {
		isRotate(t, "near the greatest number", l, n, api.OK)
	}
	isRotate(t, "the greatest number", l, 0, api.ErrLong)
}

// crowded returns a disk with so many files.
func crowded(t *testing.T, many int, files ...file) *disk.Disk {
	t.Helper()
	for i := len(files); i < many; i++ {
		files = append(files, file{fmt.Sprint("x", i), ""})
	}
	return newDisk(t, 1000, files...)
}

// P7.1: a disk without room, at each of the steps of a new segment: what was done remains done.
func TestOpenWithoutRoom(t *testing.T) {
	isShut(t, "a disk with too many files", crowded(t, 4096), 1, api.ErrRoom)
	isShut(t, "a disk with too many files, one a segment", crowded(t, 4096, file{name(1), segment(1)}), 1, api.ErrRoom)
	isOpen(t, "a disk with nearly too many files", crowded(t, 4095), 1, 1, 1)
	for room := range 6 {
		d := newDisk(t, room)
		notOpened(t, "an empty disk", d, 1, api.ErrRoom)
		isFiles(t, "an empty disk without room", d, file{name(1), ""})
		if d.Steps() != 1+1 {
			t.Errorf("Open without room took %d steps, want 1", d.Steps()-1)
		}
		notOpened(t, "an empty disk, again", d, 1, api.ErrRoom)
		isFiles(t, "an empty disk without room, again", d, file{name(1), ""}, file{name(2), ""})
		d.Crash([]int{1})
		notOpened(t, "an empty disk, behind a crash", d, 1, api.ErrRoom)
		isFiles(t, "an empty disk without room, behind a crash", d, file{name(1), ""}, file{name(2), ""})
	}
	isOpen(t, "a disk with room for a head", newDisk(t, 6), 1, 1, 1)
	isOpen(t, "a disk with room for a head of two bytes", newDisk(t, 7), 128, 128, 1)
	d := newDisk(t, 6)
	notOpened(t, "a disk without room for a head of two bytes", d, 128, api.ErrRoom)
	all, batches := three(1)
	size := len(all[0].bytes) + len(all[1].bytes) + len(all[2].bytes)
	d = newDisk(t, size+5, all...)
	notOpened(t, "a disk without room for a fourth segment", d, 1, api.ErrRoom)
	isFiles(t, "a disk without room for a fourth segment", d, slices.Concat(all, []file{{name(4), ""}})...)
	isOpen(t, "a disk with room for a fourth segment", newDisk(t, size+6, all...), 1, 4, 301, batches...)
}

// P7.1: the power goes at each of the steps of a new segment: what was done remains done.
func TestOpenAtFuse(t *testing.T) {
	all, batches := three(1)
	for n, made := range [][]file{nil, {{name(4), ""}}, {{name(4), segment(4)}}, {{name(4), segment(4)}}} {
		d := newDisk(t, 1000, all...)
		before := d.Steps()
		d.Fuse(n + 1)
		notOpened(t, fmt.Sprint("a fuse of ", n+1), d, 1, api.ErrDown)
		if !d.Down() || d.Steps() != before+n {
			t.Errorf("a fuse of %d: down is %v, %d steps", n+1, d.Down(), d.Steps()-before)
		}
		isShut(t, "behind the fuse", d, 1, api.ErrDown)
		isShut(t, "behind the fuse, from 0", d, 0, api.ErrDown)
		for _, choices := range [][]int{nil, {1}, {1, 1}, {1, 2}, {1, -1}} {
			c := d.Copy()
			c.Crash(choices)
			isOpen(t, fmt.Sprint("behind a fuse of ", n+1), c, 1, len(c.Names())+1, 301, batches...)
		}
		c := d.Copy()
		c.Crash([]int{-1, -1})
		isFiles(t, fmt.Sprint("behind a fuse of ", n+1), c, slices.Concat(all, made)...)
	}
	d := newDisk(t, 1000, all...)
	d.Fuse(5)
	l := isOpen(t, "a fuse of 5", d, 1, 4, 301, batches...)
	if e := l.Sync(); e != api.ErrDown {
		t.Errorf("Sync at a fuse of 5: %v", e)
	}
}

// P7.1, P7.2: the log keeps the disk, and not a copy; two logs on one disk don't affect each other's Last and Next.
func TestOpenKeepsDisk(t *testing.T) {
	d := newDisk(t, 1000)
	first := isOpen(t, "the first log", d, 1, 1, 1)
	second := isOpen(t, "the second log", d, 1, 2, 1)
	a, b := of(1, put("a", "x")), of(1, put("b", "y"))
	isAll(t, "two logs", first.Append(a), second.Append(b))
	isFiles(t, "two logs", d, file{name(1), segment(1, a)}, file{name(2), segment(2, b)})
	isAt(t, "the first log", first, 1, 2)
	isAt(t, "the second log", second, 2, 2)
	var zero wal.Log
	isNone(t, "a log that nobody made", &zero)
	isNone(t, "a nil log", nil)
}
