package wal_test

import (
	"fmt"
	"math"
	"slices"
	"strings"
	"testing"
	"unsafe"

	"freshet/api"
	"freshet/batch"
	"freshet/disk"
	"freshet/wal"
)

// isAppend tests what Append returns; with an error, that nothing has changed.
func isAppend(t *testing.T, what string, d *disk.Disk, l *wal.Log, b api.Batch, want api.Errno) {
	t.Helper()
	before, last, seq := d.Copy(), l.Last(), l.Next()
	if e := l.Append(b); e != want {
		t.Errorf("%s: Append: %v, want %v", what, e, want)
	}
	if want == api.OK {
		isAt(t, what, l, last, b.Seq+uint64(len(b.List)))
		return
	}
	isAt(t, what, l, last, seq)
	if want != api.ErrDown {
		isLike(t, what, d, before)
	}
}

// P7.2: batches go behind the others, as frames of the last segment; each is one step.
func TestAppend(t *testing.T) {
	d := newDisk(t, 2000)
	l := isOpen(t, "a new disk", d, 7, 7, 1)
	var done []api.Batch
	for _, b := range []api.Batch{
		of(1, put("a", "x")), of(2, del("a"), put("a", "")), of(4, put("\x00\xff", "\xff\x00")), of(10, del("b")), of(300, put(strings.Repeat("k", 520), strings.Repeat("v", 300))),
		of(301, slices.Repeat([]api.Write{put("a", "x")}, 64)...), of(1<<56-65, put("a", "x")), of(1<<56-64, put("a", "x")),
	} {
		steps := d.Steps()
		isAppend(t, fmt.Sprint("Seq ", b.Seq), d, l, b, api.OK)
		done = append(done, b)
		isFiles(t, fmt.Sprint("Seq ", b.Seq), d, file{name(7), segment(7, done...)})
		if d.Steps() != steps+1 {
			t.Errorf("Append took %d steps, want 1", d.Steps()-steps)
		}
	}
	isAppend(t, "behind the greatest Seq", d, l, of(1<<56-64, put("a", "x")), api.ErrArg)
	isOpen(t, "all batches", d, 7, 8, 1<<56-63, done...)
	// The longest batch there may be behind all others takes next to its greatest value, which is no batch's Seq.
	l = isOpen(t, "a new disk", newDisk(t, 2000), 7, 7, 1)
	isAll(t, "the last batch", l.Append(of(1<<56-64, slices.Repeat([]api.Write{del("a")}, 64)...)))
	isAt(t, "the last batch", l, 7, 1<<56)
}

// P7.2: batches that are not valid, whatever their Seq, and also on a disk that is down; a Seq below next.
func TestAppendErrors(t *testing.T) {
	long := strings.Repeat("k", 521)
	for _, x := range []struct {
		what string
		b    api.Batch
		e    api.Errno
	}{
		{"the zero batch", api.Batch{}, api.ErrArg}, {"no writes", of(50), api.ErrArg}, {"Seq 0", of(0, put("a", "x")), api.ErrArg}, {"a Seq that is too great", of(1<<56-63, put("a", "x")), api.ErrArg}, {"the greatest Seq", of(math.MaxUint64, put("a", "x")), api.ErrArg},
		{"an empty key", of(50, put("", "x")), api.ErrArg}, {"kind 3", of(50, api.Write{Kind: 3, Key: "a"}), api.ErrArg}, {"a delete with a value", of(50, api.Write{Kind: 2, Key: "a", Value: "x"}), api.ErrArg},
		{"a long key", of(50, put(long, "x")), api.ErrLong}, {"a long value", of(50, put("a", strings.Repeat("v", 2049))), api.ErrLong}, {"65 writes", of(50, slices.Repeat([]api.Write{del("a")}, 65)...), api.ErrLong},
		{"a long key and an empty one", of(50, put(long, "x"), del("")), api.ErrArg},
		// Check's errors come ahead of that for a Seq below next.
		{"a long key below next", of(1, put(long, "x")), api.ErrLong}, {"65 writes below next", of(1, slices.Repeat([]api.Write{del("a")}, 65)...), api.ErrLong},
		{"a Seq of 1 below next", of(1, put("a", "x")), api.ErrArg}, {"a Seq just below next", of(31, put("a", "x")), api.ErrArg}, {"a Seq that is there", of(30, put("a", "x")), api.ErrArg},
	} {
		d := newDisk(t, 10000)
		l := isOpen(t, x.what, d, 1, 1, 1)
		isAppend(t, "ahead of "+x.what, d, l, of(30, put("a", "x"), del("b")), api.OK)
		isAppend(t, x.what, d, l, x.b, x.e)
		d.Fuse(1)
		isAppend(t, x.what+" at the fuse", d, l, x.b, x.e)
		isAppend(t, "the power's loss", d, l, of(32, put("a", "x")), api.ErrDown)
		isAppend(t, x.what+" on a disk that is down", d, l, x.b, x.e)
	}
}

// filled returns a batch whose encoding has so many bytes, of 65000 to 67000.
func filled(seq uint64, size int) api.Batch {
	b := of(seq, slices.Repeat([]api.Write{put("k", strings.Repeat("v", 2048))}, 32)...)
	s := framedBatch(b)
	// The length of a frame takes three bytes here, and its checksum four.
	b.List[0].Value = b.List[0].Value[:2048-(len(s)-7-size)]
	return b
}

// P7.2: an encoding as long as a frame's payload can be, and longer ones.
func TestAppendLong(t *testing.T) {
	most := slices.Repeat([]api.Write{put(strings.Repeat("k", 520), strings.Repeat("v", 2048))}, 64)
	for _, seq := range []uint64{1, 127, 128, 1 << 50} {
		d := newDisk(t, 1<<20)
		l := isOpen(t, "a new disk", d, 1, 1, 1)
		isAppend(t, "an encoding of 65537 bytes", d, l, filled(seq, 65537), api.ErrLong)
		isAppend(t, "an encoding of 65538 bytes", d, l, filled(seq, 65538), api.ErrLong)
		isAppend(t, "the longest encoding", d, l, of(seq, most...), api.ErrLong)
		isAppend(t, "an encoding of 65536 bytes", d, l, filled(seq, 65536), api.OK)
		isAppend(t, "an encoding of 65535 bytes", d, l, filled(seq+32, 65535), api.OK)
		isAppend(t, "a long encoding of a Seq below next", d, l, filled(seq, 65537), api.ErrArg)
		isAppend(t, "the longest encoding of a Seq below next", d, l, of(seq+63, most...), api.ErrArg)
		isOpen(t, "long encodings", d.Copy(), 1, 2, seq+64, filled(seq, 65536), filled(seq+32, 65535))
		d.Fuse(1)
		isAppend(t, "the longest encoding at the fuse", d, l, of(seq+64, most...), api.ErrLong)
		isAppend(t, "the power's loss", d, l, filled(seq+64, 65536), api.ErrDown)
		isAppend(t, "the longest encoding on a disk that is down", d, l, of(seq+64, most...), api.ErrLong)
	}
	d := newDisk(t, 6)
	isAppend(t, "the longest encoding on a full disk", d, isOpen(t, "a full disk", d, 1, 1, 1), of(1, most...), api.ErrLong)
}

// P7.2: a full disk, the power's loss, a segment that is gone: next stays, and what fits goes on.
func TestAppendDiskErrors(t *testing.T) {
	short, long := of(5, put("a", "x")), of(5, put("a", "xy"), del("b"))
	d := newDisk(t, 6+len(framedBatch(short)))
	l := isOpen(t, "a full disk", d, 1, 1, 1)
	isAppend(t, "a batch with no room", d, l, long, api.ErrRoom)
	isAppend(t, "a batch that fits", d, l, short, api.OK)
	isAppend(t, "a batch with no room", d, l, of(6, del("a")), api.ErrRoom)
	isFiles(t, "a full disk", d, file{name(1), segment(1, short)})
	isAppend(t, "a Seq below next on a full disk", d, l, short, api.ErrArg)
	d = newDisk(t, 1000)
	l = isOpen(t, "a fuse", d, 1, 1, 1)
	isAppend(t, "ahead of the fuse", d, l, short, api.OK)
	d.Fuse(1)
	isAppend(t, "the power's loss", d, l, of(6, del("a")), api.ErrDown)
	isAppend(t, "a disk that is down", d, l, of(7, del("a")), api.ErrDown)
	d.Crash([]int{-1, -1})
	isFiles(t, "behind the crash", d, file{name(1), segment(1, short)})
	d = newDisk(t, 1000)
	l = isOpen(t, "a segment that goes", d, 1, 1, 1)
	d.Remove(name(1))
	isAppend(t, "a segment that is gone", d, l, short, api.ErrNone)
	if e := l.Sync(); e != api.ErrNone {
		t.Errorf("Sync of a segment that is gone: %v", e)
	}
	isRotate(t, "a segment that is gone", l, 0, api.ErrNone)
	isAt(t, "a segment that is gone", l, 1, 1)
	isFiles(t, "a segment that is gone", d)
}

// P7.2: Sync makes the last segment sure, and nothing else; it is one step.
func TestSync(t *testing.T) {
	d := newDisk(t, 1000)
	l := isOpen(t, "a new disk", d, 1, 1, 1)
	isAll(t, "other files", d.Create("a"), d.SyncDir(), d.Append("a", "xyz"), d.Create("b"))
	first, second := of(1, put("a", "x")), of(2, del("a"))
	isAll(t, "a batch", l.Append(first))
	c := d.Copy()
	c.Crash(nil)
	isFiles(t, "ahead of Sync", c, file{"a", ""}, file{name(1), segment(1)})
	steps := d.Steps()
	isAll(t, "Sync", l.Sync(), l.Sync(), l.Append(second))
	if d.Steps() != steps+3 {
		t.Errorf("two calls of Sync and one of Append took %d steps", d.Steps()-steps)
	}
	isAt(t, "behind Sync", l, 1, 3)
	d.Crash(nil)
	isFiles(t, "behind Sync", d, file{"a", ""}, file{name(1), segment(1, first)})
}

// P7.2 to P7.4: a disk that is down.
func TestDown(t *testing.T) {
	for _, below := range []int{math.MinInt, 0, 1, 2, 3, math.MaxInt} {
		d := newDisk(t, 1000)
		l := isOpen(t, "a new disk", d, 1, 1, 1)
		isRotate(t, "a new disk", l, 2, api.OK)
		isAll(t, "a batch", l.Append(of(1, put("a", "x"))))
		d.Fuse(1)
		for range 2 {
			if e := l.Sync(); e != api.ErrDown {
				t.Errorf("Sync: %v", e)
			}
			isRotate(t, "a disk that is down", l, 0, api.ErrDown)
			if e := l.Retire(below); e != api.ErrDown {
				t.Errorf("Retire(%d): %v", below, e)
			}
			isAt(t, "a disk that is down", l, 2, 2)
		}
		d.Crash([]int{-1, -1})
		isFiles(t, "behind the crash", d, file{name(1), segment(1)}, file{name(2), segment(2, of(1, put("a", "x")))})
	}
}

// P7.3: Rotate makes the next segment, durably, behind all that was appended, in five steps.
func TestRotate(t *testing.T) {
	for _, from := range []int{1, 8, 98, 998, 126, 16382, 9999998, 99998997} {
		d := newDisk(t, 2000)
		l := isOpen(t, "a new disk", d, from, from, 1)
		var want []file
		var done []api.Batch
		for i := range 6 {
			number, b := from+i, of(uint64(2*i+1), put("a", fmt.Sprint(i)))
			isAll(t, "a batch", l.Append(b))
			isAt(t, "ahead of Rotate", l, number, uint64(2*i+2))
			steps := d.Steps()
			isRotate(t, fmt.Sprint("Rotate behind ", number), l, number+1, api.OK)
			isAt(t, "behind Rotate", l, number+1, uint64(2*i+2))
			if d.Steps() != steps+5 {
				t.Errorf("Rotate took %d steps, want 5", d.Steps()-steps)
			}
			want, done = append(want, file{name(number), segment(number, b)}), append(done, b)
			c := d.Copy()
			c.Crash(nil)
			isFiles(t, "behind Rotate and a crash", c, slices.Concat(want, []file{{name(number + 1), segment(number + 1)}})...)
		}
		isOpen(t, "behind Rotate", d, from, from+7, 12, done...)
	}
}

// P7.3: a disk without room for the new segment's head: the new file goes, and the last segment remains the last one.
func TestRotateWithoutRoom(t *testing.T) {
	b, c := of(1, put("a", "x")), of(2, del("a"))
	other := file{"x", strings.Repeat("x", len(framedBatch(c))+6)}
	for left := range 6 {
		d := newDisk(t, len(segment(1, b))+len(other.bytes)+left)
		l := isOpen(t, "a new disk", d, 1, 1, 1)
		isAll(t, "a batch, and another file", l.Append(b), d.Create(other.name), d.Append(other.name, other.bytes))
		steps := d.Steps()
		for i := range 3 {
			isRotate(t, "no room for a head", l, 0, api.ErrRoom)
			isAt(t, "no room for a head", l, 1, 2)
			isFiles(t, "no room for a head", d, file{name(1), segment(1, b)}, other)
			// The last segment is synced, and the new one made and removed.
			if d.Steps() != steps+3*(i+1) {
				t.Errorf("Rotate without room took %d steps, want 3", d.Steps()-steps-3*i)
			}
		}
		crashed := d.Copy()
		crashed.Crash(nil)
		isFiles(t, "behind the sync of the last segment", crashed, file{name(1), segment(1, b)})
		isAll(t, "room again", d.Remove(other.name), l.Append(c))
		isFiles(t, "room again", d, file{name(1), segment(1, b, c)})
		// The changes of the directory are the other file's, and three times that of the new one and its removal: what was removed can come back.
		for n := range 9 {
			crashed := d.Copy()
			crashed.Crash([]int{n, -1, 0})
			isOpen(t, fmt.Sprint("behind a crash ", n), crashed, 1, len(segments(crashed))+1, 3, b, c)
		}
		isRotate(t, "room again", l, 2, api.OK)
		isFiles(t, "room again", d, file{name(1), segment(1, b, c)}, file{name(2), segment(2)})
	}
}

// segments are the names of a disk's segments.
func segments(d *disk.Disk) []string {
	return slices.DeleteFunc(d.Names(), func(name string) bool { return !segmentForm.MatchString(name) })
}

// P7.3: a disk with too many files, and one on which the new segment's name is taken: nothing is removed.
func TestRotateNotCreated(t *testing.T) {
	d := crowded(t, 4095)
	l := isOpen(t, "a crowded disk", d, 1, 1, 1)
	for i := range 2 {
		before := d.Copy()
		isAll(t, "a sync", before.Sync(name(1)))
		isRotate(t, "a crowded disk", l, 0, api.ErrRoom)
		isAt(t, "a crowded disk", l, 1, 1)
		isLike(t, fmt.Sprint("a crowded disk ", i), d, before)
	}
	isAll(t, "a name less", d.Remove("x7"))
	isRotate(t, "a name less", l, 2, api.OK)
	taken := file{name(2), "what another one wrote"}
	d = newDisk(t, 1000, taken)
	l = isOpen(t, "a name that is taken", d, 3, 3, 1)
	isRotate(t, "a name that isn't taken", l, 4, api.OK)
	d = newDisk(t, 1000)
	l = isOpen(t, "a new disk", d, 1, 1, 1)
	lay(t, d, taken)
	isAll(t, "a batch", l.Append(of(1, put("a", "x"))))
	for range 2 {
		before := d.Copy()
		isAll(t, "a sync", before.Sync(name(1)))
		isRotate(t, "a name that is taken", l, 0, api.ErrThere)
		isAt(t, "a name that is taken", l, 1, 2)
		isLike(t, "a name that is taken", d, before)
	}
}

// P7.3: the power goes at each of Rotate's steps: the last segment remains the last one.
func TestRotateAtFuse(t *testing.T) {
	b, c := of(1, put("a", "x")), of(2, del("a"))
	last, head := file{name(1), segment(1, b, c)}, segment(2)
	for n, want := range [][]file{{last}, {last}, {last, {name(2), ""}}, {last, {name(2), head}}, {last, {name(2), head}}} {
		d := newDisk(t, 1000)
		l := isOpen(t, "a new disk", d, 1, 1, 1)
		isAll(t, "batches", l.Append(b), l.Sync(), l.Append(c))
		steps := d.Steps()
		d.Fuse(n + 1)
		isRotate(t, fmt.Sprint("a fuse of ", n+1), l, 0, api.ErrDown)
		isAt(t, fmt.Sprint("a fuse of ", n+1), l, 1, 3)
		if !d.Down() || d.Steps() != steps+n {
			t.Errorf("a fuse of %d: down is %v, %d steps", n+1, d.Down(), d.Steps()-steps)
		}
		all, none := d.Copy(), d.Copy()
		all.Crash([]int{-1, -1, -1})
		isFiles(t, fmt.Sprint("a fuse of ", n+1), all, want...)
		none.Crash(nil)
		if n == 0 {
			last.bytes = segment(1, b)
		} else {
			last.bytes = segment(1, b, c)
		}
		isFiles(t, fmt.Sprint("a fuse of ", n+1), none, last)
	}
	d := newDisk(t, 1000)
	l := isOpen(t, "a new disk", d, 1, 1, 1)
	d.Fuse(6)
	isRotate(t, "a fuse of 6", l, 2, api.OK)
	if e := l.Sync(); e != api.ErrDown {
		t.Errorf("Sync at a fuse of 6: %v", e)
	}
}

// P7.3: the power goes when the new file is to be removed: the error of the step is told.
func TestRotateFuseAtRemoval(t *testing.T) {
	d := newDisk(t, 6)
	l := isOpen(t, "a full disk", d, 1, 1, 1)
	d.Fuse(3)
	isRotate(t, "a fuse at the removal", l, 0, api.ErrRoom)
	isAt(t, "a fuse at the removal", l, 1, 1)
	if !d.Down() {
		t.Errorf("a fuse at the removal: the disk isn't down")
	}
	isRotate(t, "behind the fuse", l, 0, api.ErrDown)
	d.Crash([]int{-1})
	isFiles(t, "a fuse at the removal", d, file{name(1), segment(1)}, file{name(2), ""})
}

// P7.4: Retire below, at and above the last segment.
func TestRetire(t *testing.T) {
	for _, x := range []struct {
		below int
		want  []int
	}{
		{math.MinInt, []int{1, 2, 3, 4, 5, 9}}, {-1, []int{1, 2, 3, 4, 5, 9}}, {0, []int{1, 2, 3, 4, 5, 9}}, {1, []int{1, 2, 3, 4, 5, 9}}, {2, []int{2, 3, 4, 5, 9}}, {3, []int{3, 4, 5, 9}}, {4, []int{4, 5, 9}},
		{5, []int{5, 9}}, {6, []int{5, 9}}, {9, []int{5, 9}}, {10, []int{5}}, {100, []int{5}}, {99999999, []int{5}}, {math.MaxInt, []int{5}},
	} {
		// What is below from is on the disk too, and what another one laid above the last segment.
		d := newDisk(t, 1000, file{name(1), "any bytes"}, file{name(2), segment(2)}, file{"log-0", "another file"})
		l := isOpen(t, "a log", d, 2, 3, 1)
		isRotate(t, "a log", l, 4, api.OK)
		isRotate(t, "a log", l, 5, api.OK)
		b := of(1, put("a", "x"))
		isAll(t, "a batch", l.Append(b))
		lay(t, d, file{name(9), ""})
		steps := d.Steps()
		var names []string
		for _, n := range x.want {
			names = append(names, name(n))
		}
		for range 2 {
			isAll(t, fmt.Sprint("Retire(", x.below, ")"), l.Retire(x.below))
			if got := segments(d); !slices.Equal(got, names) {
				t.Errorf("Retire(%d) leaves %q, want %q", x.below, got, names)
			}
			if d.Steps() != steps+6-len(names) {
				t.Errorf("Retire(%d) took %d steps", x.below, d.Steps()-steps)
			}
			isAt(t, "behind Retire", l, 5, 2)
		}
		if s, e := d.Read(name(5)); s != segment(5, b) || e != api.OK {
			t.Errorf("Retire(%d): the last segment is %x, %v", x.below, s, e)
		}
		// The directory isn't synced.
		d.Crash(nil)
		if got := segments(d); len(got) != 6 {
			t.Errorf("Retire(%d) and a crash leave %q", x.below, got)
		}
	}
}

// P7.4: Retire in ascending order, at which the power goes in between.
func TestRetireAtFuse(t *testing.T) {
	for n := range 4 {
		d := newDisk(t, 1000)
		l := isOpen(t, "a new disk", d, 8, 8, 1)
		for number := 9; number <= 11; number++ {
			isRotate(t, "a new disk", l, number, api.OK)
		}
		d.Fuse(n + 1)
		e := l.Retire(12)
		if want := errorOf(n < 3, api.ErrDown, api.OK); e != want || d.Down() != (n < 3) {
			t.Errorf("Retire at a fuse of %d: %v, down is %v", n+1, e, d.Down())
		}
		isAt(t, "Retire at a fuse", l, 11, 1)
		for kept := range n + 1 {
			c := d.Copy()
			c.Crash([]int{kept})
			var want []string
			for number := 8 + kept; number <= 11; number++ {
				want = append(want, name(number))
			}
			if got := c.Names(); !slices.Equal(got, want) {
				t.Errorf("Retire at a fuse of %d, and a crash: %q, want %q", n+1, got, want)
			}
			isOpen(t, "Retire at a fuse", c, 8+kept, 12, 1)
		}
	}
}

// P7.2 to P7.4: no log, and all calls of one that nobody made.
func TestNoLog(t *testing.T) {
	isNone(t, "a nil log", nil)
	isNone(t, "a log that nobody made", &wal.Log{})
	l, _, _ := wal.Open(nil, 1)
	isNone(t, "a log that wasn't opened", l)
	for _, below := range []int{math.MinInt, 0, 1, math.MaxInt} {
		if e := l.Retire(below); e != api.ErrNil {
			t.Errorf("Retire(%d) of no log: %v", below, e)
		}
	}
	// ErrNil comes ahead of a batch's errors.
	for _, b := range []api.Batch{{}, of(0), of(1), of(1, put("", "")), of(1, put(strings.Repeat("k", 521), "")), filled(1, 65537)} {
		if e := l.Append(b); e != api.ErrNil {
			t.Errorf("Append to no log: %v", e)
		}
	}
}

// The chapter's words: an open log does not read the files again.
func TestFilesAreNotReadAgain(t *testing.T) {
	d := newDisk(t, 1000)
	l := isOpen(t, "a new disk", d, 1, 1, 1)
	first, second := of(5, put("a", "x")), of(9, del("a"))
	isAll(t, "a batch", l.Append(first))
	// What others append, damage and lay is not noticed.
	isAll(t, "changes by others", d.Append(name(1), framedBatch(of(700, del("z")))), d.Turn(name(1), 0, 255))
	lay(t, d, file{name(40), segment(40)})
	isAt(t, "changes by others", l, 1, 6)
	isAll(t, "changes by others", l.Append(of(6, put("b", "y"))), l.Sync())
	isRotate(t, "changes by others", l, 2, api.OK)
	isAll(t, "changes by others", l.Append(second))
	isAt(t, "changes by others", l, 2, 10)
	if s, _ := d.Read(name(2)); s != segment(2, second) {
		t.Errorf("the new segment is %x", s)
	}
}

// shares tells whether two strings lie in the same memory.
func shares(a, b string) bool {
	p, q := uintptr(unsafe.Pointer(unsafe.StringData(a))), uintptr(unsafe.Pointer(unsafe.StringData(b)))
	return p < q+uintptr(len(b)) && q < p+uintptr(len(a))
}

// texts are all strings of these batches.
func texts(l []api.Batch) []string {
	var all []string
	for _, b := range l {
		for _, w := range b.List {
			all = append(all, w.Key, w.Value)
		}
	}
	return all
}

// The rules: the batch that is handed to Append is neither changed nor kept.
func TestAppendSharesNothing(t *testing.T) {
	d := newDisk(t, 1000)
	l := isOpen(t, "a new disk", d, 1, 1, 1)
	key, value := []byte("key"), []byte("value")
	room := []api.Write{put(unsafe.String(&key[0], 3), unsafe.String(&value[0], 5)), del("b"), put("behind", "the length"), del("as well")}
	b := of(1, room[:2]...)
	isAll(t, "a batch", l.Append(b))
	if !slices.Equal(room, []api.Write{put("key", "value"), del("b"), put("behind", "the length"), del("as well")}) || b.Seq != 1 {
		t.Errorf("Append changed the batch to %v", room)
	}
	copy(key, "xyz")
	copy(value, "uvwxy")
	room[1] = put("c", "d")
	want := of(1, put("key", "value"), del("b"))
	isFiles(t, "a batch that was changed", d, file{name(1), segment(1, want)})
	isOpen(t, "a batch that was changed", d, 1, 2, 3, want)
}

// The rules: what Open returns shares no memory with the log, the disk, other results, or within itself.
func TestOpenSharesNothing(t *testing.T) {
	all, batches := three(1)
	batches = slices.Concat(batches, []api.Batch{of(301, put("same", "same"), put("same", "same"))})
	d := newDisk(t, 2000, append(all, file{name(4), segment(4, batches[5])})...)
	l, first, _ := wal.Open(d, 1)
	_, second, _ := wal.Open(d, 1)
	var read []string
	for _, name := range d.Names() {
		s, _ := d.Read(name)
		read = append(read, s)
	}
	strings := slices.Concat(texts(first), texts(second), read)
	for i, s := range strings {
		for _, u := range strings[:i] {
			if s != "" && u != "" && shares(s, u) {
				t.Errorf("%q shares memory", s)
			}
		}
	}
	// Each list is changed to its capacity, and none of the others is.
	for i := range first {
		list := first[i].List[:cap(first[i].List)]
		for j := range list {
			list[j] = del("changed")
		}
		first[i].Seq = 7000
		for j := i + 1; j < len(first); j++ {
			if !batch.Same(first[j], batches[j]) {
				t.Errorf("batch %d is %v when those ahead of it are changed", j, first[j])
			}
		}
	}
	_ = append(first, of(8000, del("more")))
	if !same(second, batches) {
		t.Errorf("the second Open's batches are %v when those of the first one are changed", second)
	}
	isAt(t, "the first log", l, 5, 303)
	isAll(t, "the first log", l.Append(of(303, put("a", "x"))))
	third := slices.Concat(batches, []api.Batch{of(303, put("a", "x"))})
	isOpen(t, "the batches that were changed", d, 1, 7, 304, third...)
}
