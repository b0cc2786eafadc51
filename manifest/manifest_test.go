package manifest_test

import (
	"fmt"
	"math"
	"slices"
	"strings"
	"testing"

	"freshet/api"
	"freshet/disk"
	"freshet/edit"
	"freshet/manifest"
)

// The chapter's examples: P15.1 to P15.3, P15.5, P15.7.
func TestExamples(t *testing.T) {
	d := newDisk(t, 1000)
	m := isOpen(t, "a new disk", d, 1, edit.First())
	if got := d.Names(); !slices.Equal(got, []string{"current", "man-00000001"}) {
		t.Errorf("the files are %q", got)
	}
	isErrno(t, "Seq 5", m.Log(api.Edit{Seq: 5}), api.OK)
	isErrno(t, "Seq 4", m.Log(api.Edit{Seq: 4}), api.ErrArg)
	isAt(t, "behind Log", m, 1, api.Version{Log: 1, Next: 1, Seq: 5})
	d.Crash(nil)
	isOpen(t, "behind the crash", d, 2, api.Version{Log: 1, Next: 1, Seq: 5})
	if got := d.Names(); !slices.Equal(got, []string{"current", "man-00000002"}) {
		t.Errorf("the files are %q", got)
	}
}

// some are edits that can be logged one behind another, with tables on all levels.
func some() []api.Edit {
	wide := api.Meta{Number: 300, Size: 1 << 18, Rows: 1 << 18, First: "\x00", Last: strings.Repeat("\xff", 520), Least: 1, Greatest: 1<<56 - 1}
	return []api.Edit{
		{},
		{Log: 2},
		adding(3, 9, at(0, table(1, "a", 9)), at(0, table(2, "a", 8))),
		{Gone: []api.Gone{from(0, 1)}, Added: []api.Placed{at(1, table(1, "a", 9))}},
		adding(130, 200, at(1, table(129, "b", 200)), at(1, table(128, "\x00", 10)), at(2, table(3, "a\x00b", 7)), at(3, table(5, "k", 9))),
		{Log: 128, Gone: []api.Gone{from(1, 129), from(0, 2)}},
		{},
		adding(301, 1<<56-1, at(0, wide)),
		{Log: 99999999, Next: 99999999, Gone: []api.Gone{from(1, 1), from(1, 128), from(2, 3), from(3, 5), from(0, 300)}},
	}
}

// P15.3, P15.2: each edit stands behind the others as one frame, durable at once, and the version is the resulting one.
func TestLog(t *testing.T) {
	d := newDisk(t, 100000)
	m := isOpen(t, "a new disk", d, 1, edit.First())
	v := edit.First()
	var done []api.Edit
	for i, e := range some() {
		what := fmt.Sprint("edit ", i)
		before := d.Steps()
		isAll(t, what, m.Log(e))
		done, v = append(done, e), applied(t, v, e)
		isAt(t, what, m, 1, v)
		isFiles(t, what, d, rolled(1, edit.First(), done...)...)
		if steps := d.Steps() - before; steps != 2 {
			t.Errorf("%s: Log takes %d steps, want 2", what, steps)
		}
		for _, choices := range [][]int{nil, {-1, -1}, {5, 5}} {
			c := d.Copy()
			c.Crash(choices)
			isFiles(t, what, c, rolled(1, edit.First(), done...)...)
			isOpen(t, what, c, 2, v)
			isFiles(t, what, c, rolled(2, v)...)
		}
	}
	c := d.Copy()
	isOpen(t, "without a crash", c, 2, v)
	isAll(t, "all edits", m.Roll())
	isFiles(t, "Roll behind all edits", d, rolled(2, v)...)
}

// P15.3: the errors of edit.Apply, for the version that is current; neither the version nor the disk changes.
func TestLogOfWrongEdits(t *testing.T) {
	d := newDisk(t, 10000)
	m := isOpen(t, "a new disk", d, 1, edit.First())
	first := adding(3, 9, at(0, table(1, "a", 9)), at(1, table(2, "b", 8)))
	first.Log = 4
	isAll(t, "an edit", m.Log(first))
	v := applied(t, edit.First(), first)
	before := d.Copy()
	long := table(4, strings.Repeat("k", 521), 1)
	for i, x := range []struct {
		e    api.Edit
		want api.Errno
	}{
		{api.Edit{Log: 3}, api.ErrArg},
		{api.Edit{Next: 2}, api.ErrArg},
		{api.Edit{Seq: 8}, api.ErrArg},
		{api.Edit{Gone: []api.Gone{from(-1, 1)}}, api.ErrArg},
		{api.Edit{Gone: []api.Gone{from(4, 1)}}, api.ErrArg},
		{adding(9, 0, at(4, table(4, "k", 1))), api.ErrArg},
		{adding(9, 0, at(math.MinInt, table(4, "k", 1))), api.ErrArg},
		{adding(9, 0, at(1, long)), api.ErrArg},
		{adding(9, 0, at(1, table(0, "k", 1))), api.ErrArg},
		{adding(9, 0, at(1, table(4, "", 1))), api.ErrArg},
		{adding(9, 0, at(1, api.Meta{})), api.ErrArg},
		{api.Edit{Gone: []api.Gone{from(1, 1)}}, api.ErrNone},
		{api.Edit{Gone: []api.Gone{from(0, 1), from(0, 1)}}, api.ErrNone},
		{api.Edit{Gone: []api.Gone{from(0, math.MaxUint64)}}, api.ErrNone},
		{adding(9, 0, at(2, table(2, "k", 1))), api.ErrThere},
		{adding(9, 0, at(2, table(4, "k", 1)), at(3, table(4, "k", 1))), api.ErrThere},
		{adding(0, 0, at(2, table(3, "k", 1))), api.ErrState},
		{adding(9, 0, at(2, table(3, "k", 10))), api.ErrState},
		{adding(9, 0, at(1, table(3, "b", 1))), api.ErrState},
		{api.Edit{Next: 100000000}, api.ErrState},
		{api.Edit{Log: math.MaxUint64}, api.ErrState},
		{api.Edit{Seq: 1 << 56}, api.ErrState},
	} {
		what := fmt.Sprint("wrong edit ", i)
		isErrno(t, what, m.Log(x.e), x.want)
		isAt(t, what, m, 1, v)
	}
	isLike(t, "wrong edits", d, before)
	isAll(t, "behind wrong edits", m.Log(api.Edit{Seq: 9}))
	isFiles(t, "behind wrong edits", d, rolled(1, edit.First(), first, api.Edit{Seq: 9})...)
}

// filled is an edit whose encoding has so many bytes: it adds tables to level 1, behind what goes.
func filled(t *testing.T, size int, gone ...api.Gone) api.Edit {
	t.Helper()
	e := api.Edit{Log: 1, Next: 5000, Seq: 9, Gone: gone}
	left := size - len(encoded(e))
	add := func(first, last int) {
		i := len(e.Added)
		m := table(uint64(1001+i), fmt.Sprintf("%03d", i)+strings.Repeat("k", last-3), 9)
		m.First = m.Last[:first]
		e.Added = append(e.Added, at(1, m))
		left = size - len(encoded(e))
	}
	for left >= 2000 {
		add(520, 520)
	}
	// Two tables share what is left: a number, a size and the like take 7 bytes, and each length 2.
	add(left/4, left/4)
	for first := 130; first <= 520; first++ {
		if last := left - 11 - first; last >= first && last <= 520 {
			add(first, last)
			break
		}
	}
	if left != 0 || len(e.Added) > 64 {
		t.Fatalf("no edit of %d bytes was made, but one of %d with %d tables", size, size-left, len(e.Added))
	}
	return e
}

// P15.3: the encodings of the edit and of the whole resulting version may have as many bytes as a payload can, and no more.
func TestLogOfLongEdits(t *testing.T) {
	for _, size := range []int{65000, 65535, 65536, 65537, 65538, 66000} {
		what := fmt.Sprint("an edit of ", size, " bytes")
		e := filled(t, size)
		d := newDisk(t, 1000000)
		m := isOpen(t, what, d, 1, edit.First())
		before := d.Copy()
		if size > 65536 {
			isErrno(t, what, m.Log(e), api.ErrLong)
			isAt(t, what, m, 1, edit.First())
			isLike(t, what, d, before)
			continue
		}
		v := applied(t, edit.First(), e)
		isErrno(t, what, m.Log(e), api.OK)
		isAt(t, what, m, 1, v)
		isAll(t, what, m.Roll())
		isFiles(t, what, d, rolled(2, v)...)
		isOpen(t, what, d, 3, v)
	}
}

// P15.3: the edit is short, and the version that results is too long for a payload, or not quite.
func TestLogOfLongVersions(t *testing.T) {
	little := adding(0, 0, at(2, table(7, "a", 9)))
	more := len(encoded(little)) - 5
	for size := 65530; size <= 65540; size++ {
		what := fmt.Sprint("a version of ", size, " bytes")
		e := filled(t, size-more)
		d := newDisk(t, 1000000)
		m := isOpen(t, what, d, 1, edit.First())
		isAll(t, what, m.Log(e))
		v := applied(t, edit.First(), e)
		after := applied(t, v, little)
		if n := len(encoded(whole(after))); n != size {
			t.Fatalf("%s has %d", what, n)
		}
		before := d.Copy()
		if size <= 65536 {
			isErrno(t, what, m.Log(little), api.OK)
			isAt(t, what, m, 1, after)
			isOpen(t, what, d, 2, after)
			continue
		}
		isErrno(t, what, m.Log(little), api.ErrLong)
		isAt(t, what, m, 1, v)
		isLike(t, what, d, before)
		// What makes the version shorter can be logged.
		isAll(t, what, m.Log(api.Edit{Gone: []api.Gone{from(1, 1001)}}), m.Log(little))
		isOpen(t, what, d, 2, applied(t, v, api.Edit{Gone: []api.Gone{from(1, 1001)}}, little))
	}
}

// P15.3: the edit is too long for a payload, or not quite, and the version that results is shorter.
func TestLogOfLongEditsToShorterVersions(t *testing.T) {
	old := adding(200, 9)
	var gone []api.Gone
	for i := range 100 {
		old.Added = append(old.Added, at(2+i/50, table(uint64(1+i), fmt.Sprintf("%03d", i), 9)))
		gone = append(gone, from(2+i/50, uint64(1+i)))
	}
	for size := 65534; size <= 65539; size++ {
		what := fmt.Sprint("an edit of ", size, " bytes")
		e := filled(t, size, gone...)
		d := newDisk(t, 1000000)
		m := isOpen(t, what, d, 1, edit.First())
		isAll(t, what, m.Log(old))
		v := applied(t, edit.First(), old)
		after := applied(t, v, e)
		if n := len(encoded(whole(after))); n > 65400 {
			t.Fatalf("the version of %s has %d", what, n)
		}
		before := d.Copy()
		if size <= 65536 {
			isErrno(t, what, m.Log(e), api.OK)
			isFiles(t, what, d, rolled(1, edit.First(), old, e)...)
			isOpen(t, what, d, 2, after)
			continue
		}
		isErrno(t, what, m.Log(e), api.ErrLong)
		isAt(t, what, m, 1, v)
		isLike(t, what, d, before)
	}
}

// P15.3: ErrNil, Apply's errors and ErrLong come ahead of the disk's.
func TestLogOrderOfErrors(t *testing.T) {
	for _, down := range []bool{false, true} {
		d := newDisk(t, 66000)
		m := isOpen(t, "a new disk", d, 1, edit.First())
		lay(t, d, file{"x", strings.Repeat("x", 66000-d.Used())})
		want := api.ErrRoom
		if down {
			d.Fuse(1)
			isErrno(t, "the power", d.SyncDir(), api.ErrDown)
			want = api.ErrDown
		}
		before := d.Copy()
		isErrno(t, "a right edit", m.Log(api.Edit{Seq: 5}), want)
		isErrno(t, "a wrong edit", m.Log(adding(5, 0, at(9, table(1, "a", 1)))), api.ErrArg)
		isErrno(t, "what is not there", m.Log(api.Edit{Gone: []api.Gone{from(0, 1)}}), api.ErrNone)
		isErrno(t, "what is not valid", m.Log(adding(0, 5, at(0, table(1, "a", 1)))), api.ErrState)
		isErrno(t, "a long edit", m.Log(filled(t, 65537)), api.ErrLong)
		isErrno(t, "an edit of all room", m.Log(filled(t, 65536)), want)
		isAt(t, "errors", m, 1, edit.First())
		isLike(t, "errors", d, before)
	}
}

// P15.3: behind ErrRoom nothing has changed, and Log goes on as soon as there is room, to the last byte.
func TestLogWithoutRoom(t *testing.T) {
	e := adding(2, 9, at(0, table(1, "a", 9)))
	size := len(edits(e))
	for left := range size + 2 {
		d := newDisk(t, 1000)
		m := isOpen(t, "a new disk", d, 1, edit.First())
		lay(t, d, file{"x", strings.Repeat("x", 1000-d.Used()-left)})
		what := fmt.Sprint(left, " bytes of room")
		before := d.Copy()
		if left < size {
			isErrno(t, what, m.Log(e), api.ErrRoom)
			isAt(t, what, m, 1, edit.First())
			isLike(t, what, d, before)
			isAll(t, what, d.Remove("x"))
		}
		isErrno(t, what, m.Log(e), api.OK)
		v := applied(t, edit.First(), e)
		isAt(t, what, m, 1, v)
		d.Remove("x")
		isFiles(t, what, d, rolled(1, edit.First(), e)...)
		isOpen(t, what, d, 2, v)
	}
}

// P15.3: the power is lost at the append or at the sync; the version does not change.
func TestLogAtFuse(t *testing.T) {
	e := adding(2, 9, at(0, table(1, "a", 9)))
	v := applied(t, edit.First(), e)
	for fuse := 1; fuse <= 3; fuse++ {
		d := newDisk(t, 1000)
		m := isOpen(t, "a new disk", d, 1, edit.First())
		what := fmt.Sprint("a fuse of ", fuse)
		d.Fuse(fuse)
		if fuse == 3 {
			isErrno(t, what, m.Log(e), api.OK)
			isAt(t, what, m, 1, v)
			continue
		}
		isErrno(t, what, m.Log(e), api.ErrDown)
		isAt(t, what, m, 1, edit.First())
		isErrno(t, what, m.Log(e), api.ErrDown)
		isErrno(t, what, m.Roll(), api.ErrDown)
		isAt(t, what, m, 1, edit.First())
		frame := len(edits(e))
		for kept := range frame + 1 {
			c := d.Copy()
			c.Crash([]int{0, kept})
			if fuse == 2 && kept == frame {
				isOpen(t, what, c, 2, v)
			} else {
				isOpen(t, what, c, 2, edit.First())
			}
		}
	}
}

// P15.4, P15.7: Roll writes the version alone to a new manifest; what was logged goes on there.
func TestRoll(t *testing.T) {
	d := newDisk(t, 100000)
	m := isOpen(t, "a new disk", d, 1, edit.First())
	v := edit.First()
	for i, e := range some() {
		what := fmt.Sprint("edit ", i)
		isAll(t, what, m.Log(e))
		v = applied(t, v, e)
		before := d.Steps()
		isErrno(t, what, m.Roll(), api.OK)
		isAt(t, what, m, 2*i+2, v)
		isFiles(t, what, d, rolled(2*i+2, v)...)
		// Three steps each for two files, two for the directory, a rename, and a file that goes.
		if steps := d.Steps() - before; steps != 10 {
			t.Errorf("%s: Roll takes %d steps, want 10", what, steps)
		}
		isErrno(t, what, m.Roll(), api.OK)
		isAt(t, what, m, 2*i+3, v)
		isFiles(t, what, d, rolled(2*i+3, v)...)
		isOpen(t, what, d.Copy(), 2*i+4, v)
	}
}

// P15.4: the steps of a roll, one by one, as what a crash leaves behind each.
func TestRollAtFuse(t *testing.T) {
	e := adding(2, 9, at(0, table(1, "a", 9)))
	v := applied(t, edit.First(), e)
	was, next := rolled(1, edit.First(), e), rolled(2, v)
	fresh := file{"current.new", next[0].bytes}
	for i, want := range [][]file{
		was,
		append(was[:2:2], file{next[1].name, ""}),
		append(was[:2:2], next[1]),
		append(was[:2:2], next[1]),
		{was[0], {"current.new", ""}, was[1], next[1]},
		{was[0], fresh, was[1], next[1]},
		{was[0], fresh, was[1], next[1]},
		{was[0], fresh, was[1], next[1]},
		{next[0], was[1], next[1]},
		{next[0], was[1], next[1]},
		next,
	} {
		what := fmt.Sprint("the power lost at step ", i+1)
		d := newDisk(t, 1000)
		m := isOpen(t, what, d, 1, edit.First())
		isAll(t, what, m.Log(e), d.SyncDir())
		d.Fuse(i + 1)
		if i == 10 {
			isErrno(t, what, m.Roll(), api.OK)
			isAt(t, what, m, 2, v)
			isFiles(t, what, d, want...)
			continue
		}
		isErrno(t, what, m.Roll(), api.ErrDown)
		isAt(t, what, m, 1, v)
		// All that was done stays, bytes that were not synced too.
		d.Crash([]int{-1, -1, -1, -1})
		isFiles(t, what, d, want...)
		isOpen(t, what, d, 2+min(i, 1), v)
		isFiles(t, what, d, rolled(2+min(i, 1), v)...)
	}
}

// P15.4: which bytes and names are durable at each step of a roll, as the least that a crash leaves tells.
func TestRollIsDurableInOrder(t *testing.T) {
	e := adding(2, 9, at(0, table(1, "a", 9)))
	v := applied(t, edit.First(), e)
	was, next := rolled(1, edit.First(), e), rolled(2, v)
	both := []file{was[0], {"current.new", next[0].bytes}, was[1], next[1]}
	turned := []file{next[0], was[1], next[1]}
	for i, want := range [][]file{was, was, was, was, was, was, was, both, both, turned, turned} {
		what := fmt.Sprint("the power lost at step ", i+1)
		d := newDisk(t, 1000)
		m := isOpen(t, what, d, 1, edit.First())
		isAll(t, what, m.Log(e), d.SyncDir())
		if d.Fuse(i + 1); i < 10 {
			isErrno(t, what, m.Roll(), api.ErrDown)
		} else {
			isErrno(t, what, m.Roll(), api.OK)
		}
		d.Crash(nil)
		isFiles(t, what, d, want...)
	}
}

// P15.4: the new number is above those of all manifests on the disk, whoever made them; these are removed.
func TestRollNumbers(t *testing.T) {
	for _, numbers := range [][]int{{2}, {1, 2}, {7, 3}, {100, 9}, {99999996}, {12345678, 5}, {99999996, 2, 3}} {
		d := newDisk(t, 1000)
		m := isOpen(t, "a new disk", d, 1, edit.First())
		isAll(t, "a new disk", m.Log(api.Edit{Seq: 5}))
		for _, n := range numbers {
			lay(t, d, file{name(n), "others' bytes"})
		}
		want := slices.Max(numbers) + 1
		what := fmt.Sprint("manifests ", numbers)
		isErrno(t, what, m.Roll(), api.OK)
		v := api.Version{Log: 1, Next: 1, Seq: 5}
		isAt(t, what, m, want, v)
		isFiles(t, what, d, rolled(want, v)...)
	}
}

// P15.4: the number that was current counts, too, where its file is gone.
func TestRollWithoutTheCurrentFile(t *testing.T) {
	d := newDisk(t, 1000, rolled(40, edit.First())...)
	m := isOpen(t, "number 40", d, 41, edit.First())
	isAll(t, "others", d.Remove(name(41)))
	isErrno(t, "Log to a file that is gone", m.Log(api.Edit{Seq: 5}), api.ErrNone)
	isAt(t, "Log to a file that is gone", m, 41, edit.First())
	lay(t, d, file{name(3), "x"})
	isErrno(t, "Roll", m.Roll(), api.OK)
	isAt(t, "Roll", m, 42, edit.First())
	isFiles(t, "Roll", d, rolled(42, edit.First())...)
}

// P15.4, P15.1: there is no number above 99999998.
func TestNumbersEnd(t *testing.T) {
	v := api.Version{Log: 3, Next: 4, Seq: 5}
	d := newDisk(t, 1000, rolled(99999996, v)...)
	m := isOpen(t, "the last but one", d, 99999997, v)
	isErrno(t, "the last", m.Roll(), api.OK)
	isAt(t, "the last", m, 99999998, v)
	isFiles(t, "the last", d, rolled(99999998, v)...)
	before := d.Copy()
	isErrno(t, "behind the last", m.Roll(), api.ErrLong)
	isAt(t, "behind the last", m, 99999998, v)
	isShut(t, "behind the last", d, api.ErrLong)
	isLike(t, "behind the last", d, before)
	isAll(t, "behind the last", m.Log(api.Edit{Seq: 6}))
	v.Seq = 6
	isAt(t, "behind the last", m, 99999998, v)
	// ErrLong comes ahead of what the disk tells.
	d.Fuse(1)
	d.SyncDir()
	isErrno(t, "the last, and down", m.Roll(), api.ErrLong)
	// One on the disk is enough.
	d = newDisk(t, 1000)
	m = isOpen(t, "a new disk", d, 1, edit.First())
	lay(t, d, file{name(99999998), ""})
	isErrno(t, "another's last", m.Roll(), api.ErrLong)
	isAt(t, "another's last", m, 1, edit.First())
	isAll(t, "another's last", d.Remove(name(99999998)), m.Roll())
	isAt(t, "another's last is gone", m, 2, edit.First())
}

// P15.4: where there is no room, what was done stays, the manifest before is still current, and takes further edits.
func TestRollWithoutRoom(t *testing.T) {
	e := adding(2, 9, at(0, table(1, "a", 9)))
	v := applied(t, edit.First(), e)
	was, next := rolled(1, edit.First(), e), rolled(2, v)
	for room := range len(next[0].bytes) + len(next[1].bytes) + 1 {
		what := fmt.Sprint(room, " bytes of room")
		d := newDisk(t, 1000)
		m := isOpen(t, what, d, 1, edit.First())
		isAll(t, what, m.Log(e))
		x := file{"x", strings.Repeat("x", 1000-d.Used()-room)}
		lay(t, d, x)
		left := []file{was[0], was[1], {name(2), ""}, x}
		switch {
		case room >= len(next[0].bytes)+len(next[1].bytes):
			isErrno(t, what, m.Roll(), api.OK)
			isFiles(t, what, d, append(next, x)...)
			continue
		case room >= len(next[1].bytes):
			left = []file{was[0], {"current.new", ""}, was[1], next[1], x}
		}
		isErrno(t, what, m.Roll(), api.ErrRoom)
		isAt(t, what, m, 1, v)
		isFiles(t, what, d, left...)
		isAll(t, what, d.Remove("x"), m.Log(api.Edit{Seq: 20}))
		after := applied(t, v, api.Edit{Seq: 20})
		isAt(t, what, m, 1, after)
		isOpen(t, what, d.Copy(), 3, after)
		c := d.Copy()
		isAll(t, what, c.SyncDir())
		c.Crash(nil)
		isOpen(t, what, c, 3, after)
		isErrno(t, what, m.Roll(), api.OK)
		isAt(t, what, m, 3, after)
		isFiles(t, what, d, rolled(3, after)...)
	}
}

// P15.4: a disk that has as many names as it can takes no new manifest, and then no new pointer.
func TestRollWithoutNames(t *testing.T) {
	for left := range 3 {
		d := newDisk(t, 100000)
		m := isOpen(t, "a new disk", d, 1, edit.First())
		for i := range 4096 - 2 - left {
			isAll(t, "a file", d.Create(fmt.Sprint("x", i)))
		}
		what := fmt.Sprint(left, " names left")
		if left == 2 {
			isErrno(t, what, m.Roll(), api.OK)
			isAt(t, what, m, 2, edit.First())
			continue
		}
		isErrno(t, what, m.Roll(), api.ErrRoom)
		isAt(t, what, m, 1, edit.First())
		if l := slowManifests(d); len(l) != 1+left {
			t.Errorf("%s: the manifests are %d", what, l)
		}
		isAll(t, what, m.Log(api.Edit{Seq: 5}), d.Remove("x0"), d.Remove("x1"))
		isErrno(t, what, m.Roll(), api.OK)
		isAt(t, what, m, 2+left, api.Version{Log: 1, Next: 1, Seq: 5})
	}
}

// P15.4: what an earlier roll has left as current.new is removed, whatever is in it.
func TestRollRemovesTheFreshPointer(t *testing.T) {
	for _, bytes := range []string{"", "x", pointer(1).bytes, pointer(77).bytes, strings.Repeat("x", 300)} {
		d := newDisk(t, 1000)
		m := isOpen(t, "a new disk", d, 1, edit.First())
		lay(t, d, file{"current.new", bytes})
		before := d.Steps()
		isErrno(t, "Roll", m.Roll(), api.OK)
		isAt(t, "Roll", m, 2, edit.First())
		isFiles(t, "Roll", d, rolled(2, edit.First())...)
		if steps := d.Steps() - before; steps != 11 {
			t.Errorf("Roll with a pointer that was left takes %d steps, want 11", steps)
		}
	}
	// Its room is what the new one needs.
	d := newDisk(t, 1000)
	m := isOpen(t, "a new disk", d, 1, edit.First())
	size := len(pointer(2).bytes)
	lay(t, d, file{"current.new", strings.Repeat("x", size)})
	lay(t, d, file{"x", strings.Repeat("x", 1000-d.Used()-len(edits(whole(edit.First()))))})
	isErrno(t, "Roll with no room besides", m.Roll(), api.OK)
}

// P15.2 to P15.4: no manifest, and all calls of one that nobody made.
func TestNoManifest(t *testing.T) {
	isNone(t, "a nil manifest", nil)
	isNone(t, "a manifest that nobody made", &manifest.Manifest{})
	m, _ := manifest.Open(nil)
	isNone(t, "a manifest that wasn't opened", m)
	isErrno(t, "a long edit", m.Log(filled(t, 66000)), api.ErrNil)
}

// The chapter's words: an open manifest does not read the files again.
func TestFilesAreNotReadAgain(t *testing.T) {
	d := newDisk(t, 1000)
	m := isOpen(t, "a new disk", d, 1, edit.First())
	isAll(t, "an edit", m.Log(api.Edit{Seq: 5}))
	lay(t, d, file{"current", "damage"}, file{name(1), edits(whole(edit.First()), api.Edit{Seq: 700})}, file{name(9), "damage"})
	v := api.Version{Log: 1, Next: 1, Seq: 5}
	isAt(t, "changes by others", m, 1, v)
	isAll(t, "changes by others", m.Log(api.Edit{Log: 2}))
	v.Log = 2
	isAt(t, "changes by others", m, 1, v)
	isErrno(t, "changes by others", m.Roll(), api.OK)
	isAt(t, "changes by others", m, 10, v)
	isFiles(t, "changes by others", d, rolled(10, v)...)
}

// downDisk returns a disk that is down, with a manifest.
func downDisk(t *testing.T, files ...file) *disk.Disk {
	t.Helper()
	d := newDisk(t, 1000, files...)
	d.Fuse(1)
	d.SyncDir()
	return d
}
