package manifest_test

import (
	"fmt"
	"slices"
	"strings"
	"testing"
	"unsafe"

	"freshet/api"
	"freshet/disk"
	"freshet/edit"
	"freshet/manifest"
)

// shares tells whether two strings lie in the same memory.
func shares(a, b string) bool {
	if a == "" || b == "" {
		return false
	}
	p, q := uintptr(unsafe.Pointer(unsafe.StringData(a))), uintptr(unsafe.Pointer(unsafe.StringData(b)))
	return p < q+uintptr(len(b)) && q < p+uintptr(len(a))
}

// keys are all strings of a version.
func keys(v api.Version) []string {
	var l []string
	for _, tables := range v.Levels {
		for _, m := range tables {
			l = append(l, m.First, m.Last)
		}
	}
	return l
}

// P15.2, and the rules: each Version is in memory of its own.
func TestVersionSharesNothing(t *testing.T) {
	d := newDisk(t, 10000)
	m := isOpen(t, "a new disk", d, 1, edit.First())
	e := adding(9, 9, at(0, table(1, "first key", 9)), at(0, table(2, "first key", 9)), at(1, table(3, "third", 9)), at(2, table(4, "k", 9)), at(3, table(5, "k", 9)))
	isAll(t, "an edit", m.Log(e))
	v := applied(t, edit.First(), e)
	test := func(what string, m *manifest.Manifest, number int) {
		t.Helper()
		first, second := m.Version(), m.Version()
		all := append(append(keys(first), keys(second)...), keys(whole0(e))...)
		for i, a := range all[:2*len(keys(first))] {
			for _, b := range all[i+1:] {
				if shares(a, b) {
					t.Fatalf("%s: %q and %q share memory", what, a, b)
				}
			}
		}
		for i := range first.Levels {
			_ = append(first.Levels[i], table(77, "x", 1))
			for j := range first.Levels[i] {
				first.Levels[i][j] = api.Meta{}
			}
		}
		isAt(t, what, m, number, v)
		if !edit.Same(second, v) {
			t.Errorf("%s: the second version is %v when the first one is changed", what, second)
		}
	}
	test("behind Log", m, 1)
	isAll(t, "Roll", m.Roll())
	test("behind Roll", m, 2)
	test("behind Open", isOpen(t, "again", d, 3, v), 3)
}

// whole0 is a version with the tables that an edit adds, as they are.
func whole0(e api.Edit) api.Version {
	var v api.Version
	for _, p := range e.Added {
		v.Levels[p.Level] = append(v.Levels[p.Level], p.Table)
	}
	return v
}

// The rules: the edit that is handed to Log is neither changed nor kept.
func TestLogSharesNothing(t *testing.T) {
	d := newDisk(t, 10000)
	m := isOpen(t, "a new disk", d, 1, edit.First())
	isAll(t, "an edit", m.Log(adding(3, 9, at(0, table(1, "a", 9)), at(0, table(2, "b", 9)))))
	key := []byte("key")
	text := unsafe.String(&key[0], 3)
	added := []api.Placed{at(3, table(7, text, 9)), at(1, table(4, text, 9)), at(0, table(5, "behind", 9)), at(0, table(6, "as well", 9))}
	gone := []api.Gone{from(0, 2), from(0, 1), from(1, 77), from(1, 78)}
	e := api.Edit{Next: 9, Gone: gone[:2], Added: added[:2]}
	isAll(t, "an edit", m.Log(e))
	isErrno(t, "a wrong edit", m.Log(e), api.ErrNone)
	if !slices.Equal(gone, []api.Gone{from(0, 2), from(0, 1), from(1, 77), from(1, 78)}) || !slices.Equal(added, []api.Placed{at(3, table(7, "key", 9)), at(1, table(4, "key", 9)), at(0, table(5, "behind", 9)), at(0, table(6, "as well", 9))}) || e.Next != 9 || len(e.Gone) != 2 || len(e.Added) != 2 {
		t.Errorf("Log changed the edit to %v", e)
	}
	copy(key, "xyz")
	added[0].Table.Size, added[1], gone[0] = 5, at(2, table(8, "z", 9)), from(3, 3)
	var v api.Version
	v.Log, v.Next, v.Seq = 1, 9, 9
	v.Levels[1], v.Levels[3] = []api.Meta{table(4, "key", 9)}, []api.Meta{table(7, "key", 9)}
	isAt(t, "an edit that was changed", m, 1, v)
	isAll(t, "Roll", m.Roll())
	isFiles(t, "an edit that was changed", d, rolled(2, v)...)
}

// The rules: no list and an empty one mean the same.
func TestEmptyLists(t *testing.T) {
	for _, e := range []api.Edit{{}, {Gone: []api.Gone{}}, {Added: []api.Placed{}}, {Gone: []api.Gone{}, Added: []api.Placed{}}} {
		d := newDisk(t, 1000)
		m := isOpen(t, "a new disk", d, 1, edit.First())
		isErrno(t, "an empty edit", m.Log(e), api.OK)
		isAt(t, "an empty edit", m, 1, edit.First())
		isFiles(t, "an empty edit", d, rolled(1, edit.First(), api.Edit{})...)
	}
}

// P2: the same calls on disks with the same history have the same results, and two manifests of two disks have nothing in common.
func TestSameAgain(t *testing.T) {
	run := func() (*disk.Disk, *manifest.Manifest, string) {
		d := newDisk(t, 10000)
		m := isOpen(t, "a new disk", d, 1, edit.First())
		tells := ""
		for _, e := range some() {
			tells = fmt.Sprint(tells, m.Log(e), m.Log(api.Edit{Seq: 1}), m.Roll(), m.Number(), m.Version(), told(d))
		}
		return d, m, tells
	}
	d, m, first := run()
	c, n, second := run()
	if first != second {
		t.Errorf("the same calls tell\n%s\nand\n%s", first, second)
	}
	isLike(t, "the same calls", d, c)
	v := n.Version()
	isAll(t, "one of the two", m.Roll(), m.Roll())
	isAt(t, "the other", n, 1+len(some()), v)
}

// P1: a disk whose power is lost and comes back, with no manifest opened again: all calls end, on it and on one that is gone.
func TestCallsBehindCrash(t *testing.T) {
	for fuse := range 30 {
		d := newDisk(t, 1000)
		m := isOpen(t, "a new disk", d, 1, edit.First())
		d.Fuse(fuse)
		for i := range 5 {
			m.Log(api.Edit{Seq: uint64(i)})
			m.Roll()
			m.Version()
			m.Number()
		}
		d.Crash([]int{fuse, fuse})
		for i := range 5 {
			m.Log(api.Edit{Seq: uint64(10 + i)})
			m.Roll()
			m.Version()
			m.Number()
		}
	}
}

// P1: Open ends, whatever bytes are in the files.
func TestOpenOfAnyBytes(t *testing.T) {
	for seed := range uint64(3000) {
		random := source(seed)
		bytes := func() string {
			b := make([]byte, random.IntN(60))
			for i := range b {
				b[i] = []byte{0, 1, 2, 5, 127, 128, 255, byte(random.Uint32())}[random.IntN(8)]
			}
			return string(b)
		}
		d := newDisk(t, 1000, file{"current", bytes()}, file{name(1), bytes()})
		isShut(t, fmt.Sprint("seed ", seed), d, api.ErrCorrupt)
		// Frames that are right, of payloads that are anything.
		d = newDisk(t, 1000, pointer(1), file{name(1), framed(bytes()) + framed(bytes())}, file{"current.new", bytes()})
		isShut(t, fmt.Sprint("seed ", seed), d, api.ErrCorrupt)
	}
	big := strings.Repeat("\x00", 1<<18)
	isShut(t, "many bytes", newDisk(t, 1<<24, file{"current", big}, file{name(1), big}), api.ErrCorrupt)
	isShut(t, "many bytes", newDisk(t, 1<<24, pointer(1), file{name(1), big}), api.ErrCorrupt)
}
