package manifest_test

import (
	"fmt"
	"math"
	"strings"
	"testing"

	"freshet/api"
	"freshet/disk"
	"freshet/edit"
)

// P15.1: no disk, one that nobody made, and one that is down, whatever is on it.
func TestOpenWithoutDisk(t *testing.T) {
	isShut(t, "a nil disk", nil, api.ErrNil)
	isShut(t, "a disk that nobody made", &disk.Disk{}, api.ErrNil)
	d, _ := disk.New(-1)
	isShut(t, "the nil disk that New returned", d, api.ErrNil)
	isShut(t, "a disk that is down", downDisk(t), api.ErrDown)
	isShut(t, "a manifest on a disk that is down", downDisk(t, rolled(1, edit.First())...), api.ErrDown)
	isShut(t, "damage on a disk that is down", downDisk(t, file{"current", "x"}), api.ErrDown)
	isShut(t, "the last number on a disk that is down", downDisk(t, file{name(99999998), ""}), api.ErrDown)
}

// P15.1: without the file current, the version is the first one, whatever else there is; the number is above those on the disk.
func TestOpenWithoutCurrent(t *testing.T) {
	v := api.Version{Log: 3, Next: 4, Seq: 5}
	for i, x := range []struct {
		files []file
		want  int
	}{
		{nil, 1},
		{[]file{{name(1), ""}}, 2},
		{[]file{{name(1), edits(whole(v))}}, 2},
		{[]file{{name(7), "damage"}, {name(3), edits(whole(v))}}, 8},
		{[]file{{"current.new", pointer(1).bytes}, {name(1), edits(whole(v))}}, 2},
		{[]file{{"current.new", "damage"}}, 1},
		{[]file{{"current.new", ""}, {name(9), ""}}, 10},
		{[]file{{name(99999997), ""}}, 99999998},
		{[]file{{name(9999999), ""}}, 10000000},
	} {
		what := fmt.Sprint("files ", i)
		d := newDisk(t, 1000, x.files...)
		before := d.Steps()
		isOpen(t, what, d, x.want, edit.First())
		isFiles(t, what, d, rolled(x.want, edit.First())...)
		want := 9
		for range x.files {
			want++
		}
		if steps := d.Steps() - before; steps != want {
			t.Errorf("%s: Open takes %d steps, want %d", what, steps, want)
		}
	}
	isShut(t, "the last number", newDisk(t, 1000, file{name(99999998), ""}), api.ErrLong)
	isShut(t, "the last number and others", newDisk(t, 1000, file{name(99999998), "x"}, file{name(1), "x"}, file{"current.new", "x"}), api.ErrLong)
	isShut(t, "the last number on a full disk", newDisk(t, 0, file{name(99999998), ""}), api.ErrLong)
}

// P15.1, P15.7: with a pointer, the version is that of its manifest, and the new one is behind all that are there.
func TestOpenWithCurrent(t *testing.T) {
	v := edit.First()
	var l []api.Edit
	for i, e := range some() {
		l, v = append(l, e), applied(t, v, e)
		for _, number := range []uint64{1, 2, 127, 128, 300, 16384, 9999999, 10000000, 99999997} {
			what := fmt.Sprint(i+1, " edits in manifest ", number)
			kept := file{name(int(number)), edits(l...)}
			isOpen(t, what, newDisk(t, 100000, pointer(number), kept), int(number)+1, v)
			isOpen(t, what, newDisk(t, 100000, pointer(number), kept, file{name(99), "x"}, file{"current.new", pointer(99).bytes}), int(max(number, 99))+1, v)
			isOpen(t, what, newDisk(t, 100000, pointer(number), kept, file{name(99999997), ""}, kept), 99999998, v)
			isShut(t, what, newDisk(t, 100000, pointer(number), kept, file{name(99999998), ""}), api.ErrLong)
		}
		isShut(t, "the last number", newDisk(t, 100000, pointer(99999998), file{name(99999998), edits(l...)}), api.ErrLong)
	}
}

// P15.1: bytes of current that point to no manifest, also where one has the number that they nearly name.
func TestOpenWithWrongPointer(t *testing.T) {
	right := edits(whole(edit.First()))
	manifests := []file{{name(1), right}, {name(2), right}, {name(127), right}, {name(128), right}, {name(99999997), right}, {"man-00000000", right}, {"man-99999999", right}, {"man-100000000", right}, {"man-100000001", right}, {"man-4294967297", right}, {"man-1", right}, {"man-0", right}, {"man-", right}, {"man--0000001", right}}
	isOpen(t, "the right pointer", newDisk(t, 1000, append(manifests, pointer(1))...), 99999998, edit.First())
	one := pointer(1).bytes
	wrong := []string{
		"", "\x00", "\x01", one + "\x00", one + "x", one + one, one + "\x01", "\x00" + one, framed("") + one, one + framed(""), framed(""), framed(one),
		framed("1"), framed("\x81\x00"), framed("\x01\x00"), framed("\x01\x01"), framed("\x80"), framed("\x80\x00"), framed("\x00"), framed(" \x01"), framed("man-00000001"), framed("\x01\n"),
		framed(strings.Repeat("\xff", 10)), framed(strings.Repeat("\xff", 9) + "\x02"), framed(strings.Repeat("\x01", 65536)), "\x81\x80\x04" + one, "\xff\xff\xff\xff\xff\xff\xff\xff\xff\xff",
		edits(whole(edit.First())), right, right + one,
	}
	for _, number := range []uint64{0, 3, 126, 129, 12345678, 99999996, 99999998, 99999999, 100000000, 100000001, 1 << 32, 1<<32 + 1, 1 << 63, 1<<63 + 1, math.MaxUint64, math.MaxUint64 - 1} {
		wrong = append(wrong, pointer(number).bytes)
	}
	for i := range one {
		wrong = append(wrong, one[:i], one[i:][1:])
		for bit := range 8 {
			turned := []byte(one)
			turned[i] ^= 1 << bit
			wrong = append(wrong, string(turned))
		}
	}
	for _, bytes := range wrong {
		isShut(t, fmt.Sprintf("a pointer of %.40x", bytes), newDisk(t, 100000, append(manifests, file{"current", bytes})...), api.ErrCorrupt)
	}
	// ErrCorrupt comes ahead of ErrLong and of what the disk has no room for.
	last := append(manifests, file{name(99999998), right})
	isShut(t, "a wrong pointer, and the last number", newDisk(t, 1000, append(last, file{"current", "x"})...), api.ErrCorrupt)
	isShut(t, "a wrong pointer on a full disk", newDisk(t, 1, file{"current", "x"}), api.ErrCorrupt)
	isShut(t, "a pointer to nothing on a full disk", newDisk(t, len(one), file{"current", one}), api.ErrCorrupt)
}

// P15.1: bytes of the current manifest that no edits have which can be applied one behind another.
func TestOpenWithWrongManifest(t *testing.T) {
	first, l := whole(edit.First()), some()
	seq, log := api.Edit{Seq: 5}, api.Edit{Log: 3}
	right := edits(first, l[2], seq)
	frames := []string{edits(first), edits(l[2]), edits(seq)}
	wrong := []string{
		"", "\x00", "\x80", frames[0][:1], frames[0][:len(frames[0])-1],
		framed(""), framed("\x00\x00\x00\x00"), framed("\x00\x00\x00\x00\x00\x00"), framed(right), framed("\x01\x01\x00\x00\x80\x00"),
		right + framed(""), right + framed("\x00\x00\x00\x00"), framed("") + right, frames[0] + framed("x") + frames[1],
		// A frame whose length may not be, or is no number.
		right + "\x81\x80\x04", right + "\x81\x80\x04" + strings.Repeat("x", 65600), right + "\x80\x00", right + strings.Repeat("\xff", 10), "\x80\x00" + right, "\x00" + right, right + "\x00\x00\x00\x00\x00",
		// Edits that can't be applied: at first, in between, and at last.
		edits(api.Edit{Next: 100000000}), edits(adding(0, 5, at(0, table(1, "a", 1)))), edits(adding(2, 0, at(0, table(1, "a", 1)))), edits(api.Edit{Gone: []api.Gone{from(0, 1)}}),
		edits(log, api.Edit{Log: 2}), edits(seq, api.Edit{Seq: 4}, seq), edits(l[2], api.Edit{Next: 2}), edits(l[2], l[2]), edits(l[2], l[3], l[3]), edits(log, seq, api.Edit{Log: 1}, log), edits(l[3], l[2]),
		edits(api.Edit{Seq: 1 << 56}), edits(api.Edit{Log: math.MaxUint64}), edits(first, api.Edit{Gone: []api.Gone{from(3, 0)}}),
		// An edit that names no level, and one with a table that is none.
		edits(api.Edit{Gone: []api.Gone{from(4, 1)}}), edits(adding(3, 9, at(4, table(1, "a", 9)))), edits(adding(3, 9, at(1, table(0, "a", 9)))), edits(adding(3, 9, at(1, table(1, "", 9)))),
	}
	for i := range frames {
		// Each frame without one of its bytes: those behind it are no frames then, or it is incomplete where it is the last.
		for j := range frames[i] {
			if s := strings.Join(frames[:i], "") + frames[i][:j] + frames[i][j+1:] + strings.Join(frames[i+1:], ""); i < 2 {
				wrong = append(wrong, s)
			}
		}
	}
	for _, bytes := range wrong {
		isShut(t, fmt.Sprintf("a manifest of %.60x", bytes), newDisk(t, 200000, pointer(8), file{name(8), bytes}, file{name(7), right}, file{name(9), right}), api.ErrCorrupt)
	}
	isShut(t, "a wrong manifest of the last number", newDisk(t, 1000, pointer(99999998), file{name(99999998), "x"}), api.ErrCorrupt)
	isShut(t, "a wrong manifest on a full disk", newDisk(t, len(pointer(8).bytes)+1, pointer(8), file{name(8), "x"}), api.ErrCorrupt)
}

// P15.1: the last frame may be incomplete, wherever it is cut.
func TestOpenWithIncompleteFrame(t *testing.T) {
	l := []api.Edit{whole(edit.First()), some()[2], {Seq: 1 << 50}}
	for i := range l {
		ahead, v := edits(l[:i]...), applied(t, edit.First(), l[:i]...)
		s := edits(l[i])
		for cut := range s {
			what := fmt.Sprint(cut, " bytes of frame ", i)
			d := newDisk(t, 10000, pointer(8), file{name(8), ahead + s[:cut]})
			if i == 0 {
				isShut(t, what, d, api.ErrCorrupt)
				continue
			}
			isOpen(t, what, d, 9, v)
			isFiles(t, what, d, rolled(9, v)...)
		}
		isOpen(t, "all bytes", newDisk(t, 10000, pointer(8), file{name(8), ahead + s}), 9, applied(t, v, l[i]))
	}
	// What an incomplete frame has in it does not matter, as nobody can tell.
	right := edits(l...)
	for _, more := range []string{"\x80", "\xff\xff", "\x05", "\x05xxxxxxxx", "\x80\x80\x04" + strings.Repeat("x", 65539)} {
		isOpen(t, "an incomplete frame", newDisk(t, 200000, pointer(8), file{name(8), right + more}), 9, applied(t, edit.First(), l...))
	}
}

// P15.1: versions at the limits of what a frame can hold; Log makes no longer one, but a file can have it.
func TestOpenOfLongVersions(t *testing.T) {
	little := adding(0, 0, at(2, table(7, "a", 9)))
	more := len(encoded(little)) - 5
	for size := 65534; size <= 65538; size++ {
		what := fmt.Sprint("a version of ", size, " bytes")
		l := []api.Edit{filled(t, size-more), little}
		v := applied(t, edit.First(), l...)
		d := newDisk(t, 1000000, pointer(8), file{name(8), edits(l...)})
		if size <= 65536 {
			isOpen(t, what, d, 9, v)
			continue
		}
		isShut(t, what, d, api.ErrLong)
		// The version that counts is the last one.
		isOpen(t, what, newDisk(t, 1000000, pointer(8), file{name(8), edits(append(l, api.Edit{Gone: []api.Gone{from(2, 7)}})...)}), 9, applied(t, edit.First(), l[0]))
	}
}

// P15.1: Open of a manifest with many edits, far more than a payload has bytes.
func TestOpenOfManyEdits(t *testing.T) {
	var l []api.Edit
	for i := range 20000 {
		l = append(l, api.Edit{Seq: uint64(i)})
	}
	s := edits(l...)
	isOpen(t, "many edits", newDisk(t, 1000000, pointer(8), file{name(8), s}), 9, api.Version{Log: 1, Next: 1, Seq: 19999})
	isShut(t, "many edits, and one too many", newDisk(t, 1000000, pointer(8), file{name(8), s + edits(api.Edit{Seq: 19998})}), api.ErrCorrupt)
}

// P15.1: the disk's errors; what was done stays, and Open succeeds as soon as there is room.
func TestOpenWithoutRoom(t *testing.T) {
	e := adding(2, 9, at(0, table(1, "a", 9)))
	v := applied(t, edit.First(), e)
	for i, old := range [][]file{nil, rolled(1, edit.First(), e)} {
		v := []api.Version{edit.First(), v}[i]
		next := rolled(1+i, v)
		used := 0
		for _, f := range old {
			used += len(f.bytes)
		}
		for room := range len(next[0].bytes) + len(next[1].bytes) + 1 {
			what := fmt.Sprint(room, " bytes of room beside ", len(old), " files")
			d := newDisk(t, used+room+100, old...)
			lay(t, d, file{"x", strings.Repeat("x", 100)})
			if room == len(next[0].bytes)+len(next[1].bytes) {
				isOpen(t, what, d, 1+i, v)
				continue
			}
			var want []file
			switch {
			case room < len(next[1].bytes):
				want = append(old[:len(old):len(old)], file{next[1].name, ""})
			case i == 0:
				want = []file{{"current.new", ""}, next[1]}
			default:
				want = []file{old[0], {"current.new", ""}, old[1], next[1]}
			}
			want = append(want, file{"x", strings.Repeat("x", 100)})
			notOpened(t, what, d, api.ErrRoom)
			isFiles(t, what, d, want...)
			notOpened(t, what, d, api.ErrRoom)
			isAll(t, what, d.Remove("x"))
			isOpen(t, what, d, 3+i, v)
			isFiles(t, what, d, rolled(3+i, v)...)
		}
	}
}

// P15.1: the power lost at each step of Open.
func TestOpenAtFuse(t *testing.T) {
	v := api.Version{Log: 3, Next: 4, Seq: 5}
	old := append(rolled(6, v), file{"current.new", "x"}, file{name(2), "x"}, file{name(9), "x"})
	for fuse := 1; fuse <= 14; fuse++ {
		d := newDisk(t, 1000, old...)
		d.Fuse(fuse)
		what := fmt.Sprint("a fuse of ", fuse)
		if fuse == 14 {
			isOpen(t, what, d, 10, v)
			isErrno(t, what, d.SyncDir(), api.ErrDown)
			continue
		}
		notOpened(t, what, d, api.ErrDown)
		isShut(t, what, d, api.ErrDown)
		for _, choices := range [][]int{nil, {-1, -1, -1, -1}, {1}, {2}, {3}, {2, 5, 5}} {
			c := d.Copy()
			c.Crash(choices)
			number := 10
			for _, n := range slowManifests(c) {
				number = max(number, n+1)
			}
			isOpen(t, what, c, number, v)
			isFiles(t, what, c, rolled(number, v)...)
		}
	}
}

// others are names that are nearly a file's of this package, and some that are not.
func others() []file {
	var l []file
	for _, name := range []string{
		"man-0000001", "man-000000001", "man-1", "man-", "man", "man-00000000", "man-99999999", "man-0000000a", "man--0000001", "man--1", "man-.0000001", "man-0000.001",
		"man-00000001.", "man-00000001-", "man-00000001.new", "man-0x000001", "man-1e000000", "man-a0000001", "man-100000000", "man-100000001", "man-999999999", "man-4294967297", "man-18446744073709551617",
		"man00000001", "man.00000001", "lan-00000001", "nan-00000001", "man--00000001", "man-man-00000001", "aman-00000001", "-man-00000001", ".man-00000001", "00000001", "an-00000001", "1",
		"log-00000001", "tab-00000001", "current.", "current.new.", "current.ne", "current.neww", "current-new", "currentnew", "curren", "currents", "new", ".new", "current.old", "a", "z",
	} {
		l = append(l, file{name, "any\x00bytes of " + name})
	}
	return l
}

// P15.1, P15.4: other files are neither read nor removed.
func TestOtherFiles(t *testing.T) {
	for _, f := range others() {
		d := newDisk(t, 10000, f)
		m := isOpen(t, f.name, d, 1, edit.First())
		isAll(t, f.name, m.Log(api.Edit{Seq: 5}), m.Roll())
		isOpen(t, f.name, d, 3, api.Version{Log: 1, Next: 1, Seq: 5})
		if got, e := d.Read(f.name); got != f.bytes || e != api.OK {
			t.Errorf("%s is %q, %v behind Open", f.name, got, e)
		}
		if len(d.Names()) != 3 {
			t.Errorf("%s: the files are %q", f.name, d.Names())
		}
	}
	d := newDisk(t, 100000, others()...)
	isOpen(t, "all other files", d, 1, edit.First())
	if got := len(d.Names()); got != len(others())+2 {
		t.Errorf("%d of %d files are left", got, len(others())+2)
	}
}
