package pick_test

import (
	"fmt"
	"slices"
	"strings"
	"testing"
	"unsafe"

	"freshet/api"
	"freshet/edit"
	"freshet/pick"
)

// shares reports whether two strings share memory.
func shares(a, b string) bool {
	if a == "" || b == "" {
		return false
	}
	p, q := uintptr(unsafe.Pointer(unsafe.StringData(a))), uintptr(unsafe.Pointer(unsafe.StringData(b)))
	return p < q+uintptr(len(b)) && q < p+uintptr(len(a))
}

// The rules that hold everywhere: a result is new memory, and shares none with an argument, with another result, or within itself.
func TestNewMemory(t *testing.T) {
	text := strings.Clone("keys of a table, and of others")
	v := versionOf(
		list(table(1, text[:4], text[:5]), table(2, text[:4], text)),
		list(table(3, text[:4], text[:4]), table(6, text[:5], text[:9])),
		list(table(4, text[:2], text[:9])),
		list(table(5, text[:1], text)))
	old := versionOf(slices.Clone(v.Levels[0]), slices.Clone(v.Levels[1]), slices.Clone(v.Levels[2]), slices.Clone(v.Levels[3]))
	seen := []string{text}
	take := func(what string, l []api.Meta, want int) {
		if len(l) != want {
			t.Errorf("%s: %s, want %d", what, told(l), want)
		}
		for i, m := range l {
			seen = append(seen, m.First, m.Last)
			l[i] = api.Meta{}
		}
		_ = append(l, api.Meta{}, api.Meta{})
	}
	for range 2 {
		for level, o := range []api.PickOptions{{Many: 1, Base: 1, Times: 1}, {Many: 3, Base: 1, Times: 1}, {Many: 3, Base: 200, Times: 1}} {
			if level == 2 {
				v.Levels[2][0].Size = 300
				old.Levels[2][0].Size = 300
			}
			c, failure := pick.Pick(v, o)
			if c.Level != level || failure != api.OK {
				t.Fatalf("Pick of %s, %v: %s, %v", toldVersion(v), o, toldCompact(c), failure)
			}
			out := list(table(2000, text[:4], text[:5]), table(1, text[:4], text[:4]))
			kept := compact(level, slices.Clone(c.In), slices.Clone(c.Over))
			e, failure := pick.Edit(v, c, out)
			if len(e.Added) != 2 || failure != api.OK {
				t.Fatalf("Edit of %s, %s: %s, %v", toldCompact(c), told(out), toldEdit(e), failure)
			}
			if !sameCompact(c, kept) || !slices.Equal(out, list(table(2000, text[:4], text[:5]), table(1, text[:4], text[:4]))) {
				t.Errorf("Edit changed its arguments to %s, %s", toldCompact(c), told(out))
			}
			take("In", c.In, []int{2, 1, 1}[level])
			take("Over", c.Over, []int{2, 1, 1}[level])
			take("Added", list(e.Added[0].Table, e.Added[1].Table), 2)
			e.Added[0], e.Added[1], e.Gone[0] = api.Placed{}, api.Placed{}, api.Gone{}
			if !slices.Equal(out, list(table(2000, text[:4], text[:5]), table(1, text[:4], text[:4]))) || !edit.Same(v, old) {
				t.Errorf("the arguments changed to %s, %s", toldVersion(v), told(out))
			}
		}
		v.Levels[2][0].Size, old.Levels[2][0].Size = 100, 100
	}
	for i, a := range seen {
		for _, b := range seen[i+1:] {
			if shares(a, b) {
				t.Fatalf("%q and %q share memory", a, b)
			}
		}
	}
}

// longer returns l as the start of a longer list, and that list.
func longer(l []api.Meta) (short, long []api.Meta) {
	long = append(slices.Clone(l), table(901, "x", "y"), table(902, "y", "z"), table(903, "z", "zz"))
	return long[:len(l)], long
}

// The rules that hold everywhere: arguments are not changed, nor is what lies behind their length.
func TestArgumentsUnchanged(t *testing.T) {
	for seed := range uint64(1000) {
		random := source(seed)
		v, o := someVersion(random, random.IntN(20)), someOptions(random)
		var longs [][]api.Meta
		extend := func(l *[]api.Meta) {
			var long []api.Meta
			*l, long = longer(*l)
			longs = append(longs, long)
		}
		for i := range v.Levels {
			extend(&v.Levels[i])
		}
		c := someCompact(random, v)
		if random.IntN(4) == 0 {
			spoil(random, v, &c)
		}
		extend(&c.In)
		extend(&c.Over)
		out := someOut(random, v, c)
		extend(&out)
		var old [][]api.Meta
		for _, l := range longs {
			old = append(old, slices.Clone(l))
		}
		pick.Pick(v, o)
		pick.Bottom(v, c)
		pick.Edit(v, c, out)
		for i := range longs {
			if !slices.Equal(longs[i], old[i]) {
				t.Fatalf("seed %d: list %d changed", seed, i)
			}
		}
	}
}

// The rules that hold everywhere: no result depends on an argument's memory afterwards.
func TestNothingKept(t *testing.T) {
	key := []byte("bcd")
	text := unsafe.String(&key[0], 3)
	v := versionOf(list(table(1, text, text)), list(table(2, text, text)))
	out := list(table(3, text, text))
	c, _ := pick.Pick(v, always)
	e, failure := pick.Edit(v, c, out)
	key[0], v.Levels[0][0].Size, v.Levels[1][0].Rows, out[0].Size = 'x', 7, 7, 7
	if want := compact(0, list(table(1, "bcd", "bcd")), list(table(2, "bcd", "bcd"))); !sameCompact(c, want) {
		t.Errorf("%s, want %s", toldCompact(c), toldCompact(want))
	}
	want := api.Edit{Gone: []api.Gone{from(0, 1), from(1, 2)}, Added: []api.Placed{at(1, table(3, "bcd", "bcd"))}}
	if !sameEdit(e, want) || failure != api.OK {
		t.Errorf("%s, %v, want %s", toldEdit(e), failure, toldEdit(want))
	}
	c.In[0].Number, c.Over[0].Number = 7, 8
	if !sameEdit(e, want) {
		t.Errorf("%s, want %s", toldEdit(e), toldEdit(want))
	}
}

// The rules that hold everywhere: an empty list and a nil one mean the same.
func TestEmptyLists(t *testing.T) {
	v := edit.First()
	for i := range v.Levels {
		v.Levels[i] = []api.Meta{}
	}
	isNotPicked(t, "empty levels", v, always, api.ErrNone)
	isBottom(t, "empty levels", v, compact(1, []api.Meta{}, nil), true, api.OK)
	isEdit(t, "empty levels", v, compact(1, nil, []api.Meta{}), []api.Meta{}, api.Edit{}, api.OK)
	v = versionOf([]api.Meta{}, list(table(1, "a", "b")), []api.Meta{}, nil)
	isPicked(t, "empty levels", v, always, compact(1, list(table(1, "a", "b")), nil), api.OK)
	isNoEdit(t, "empty lists", v, compact(0, []api.Meta{}, []api.Meta{}), list(table(1, "a", "b")), api.ErrState)
}

// P2: the same calls return the same again.
func TestSameAgain(t *testing.T) {
	v, o := four(), api.PickOptions{Many: 3, Base: 10, Times: 10}
	c := compact(0, v.Levels[0], v.Levels[1][:2])
	out := list(table(30, "a", "b"), table(40, "c", "d"))
	e, _ := slowEdit(v, c, out)
	for range 20 {
		isPicked(t, "again", v, o, c, api.OK)
		isBottom(t, "again", v, c, false, api.OK)
		isEdit(t, "again", v, c, out, e, api.OK)
		isNotPicked(t, "again", v, api.PickOptions{}, api.ErrArg)
	}
}

// P1: calls end, whatever they are passed: many tables, long keys.
func TestMany(t *testing.T) {
	const n = 300000
	many, one := manyTables(n, 1), table(11, "a", "d")
	v := versionOf(many, many, many, many)
	isErrno := func(what string, got, want api.Errno) {
		t.Helper()
		if got != want {
			t.Errorf("%s: %v, want %v", what, got, want)
		}
	}
	_, e := pick.Pick(v, always)
	isErrno("Pick of many tables", e, api.ErrArg)
	_, e = pick.Edit(v, compact(0, many, many), many)
	isErrno("Edit of many tables", e, api.ErrArg)
	for _, c := range []api.Compact{compact(0, many, many), compact(0, slices.Repeat(list(one), n), nil), compact(1, nil, slices.Repeat(list(four().Levels[2][0]), n)), compact(0, list(one), many)} {
		_, e = pick.Edit(four(), c, many)
		isErrno("Edit of many tables that are not of the version", e, api.ErrState)
		_, e = pick.Bottom(v, c)
		isErrno("Bottom of many tables", e, api.ErrArg)
		deep, e := pick.Bottom(versionOf(nil, nil, nil, list(table(1, "\xff", "\xff"))), c)
		if !deep || e != api.OK {
			t.Errorf("Bottom of many tables that are not of the version: %v, %v", deep, e)
		}
	}
	all := list(table(700, "\x00", "\xff"))
	got, e := pick.Edit(versionOf(nil, all), compact(1, all, nil), many)
	if len(got.Added) != n || len(got.Gone) != 1 || got.Next != n+1 || e != api.OK {
		t.Errorf("Edit of one table to many: %d gone, %d added, Next %d, %v", len(got.Gone), len(got.Added), got.Next, e)
	}
	long := strings.Repeat("k", 1<<22)
	l := list(table(11, long, long+"k"), table(11, "a", long))
	if !pick.Overlap(l[0], l[1]) || pick.Overlap(l[0], one) {
		t.Error("Overlap of long keys")
	}
	isBottom(t, "long keys", four(), compact(0, l, l), false, api.OK)
	isNoEdit(t, "long keys", four(), compact(0, l, l), l, api.ErrState)
	isNoEdit(t, "long keys in out", four(), compact(0, list(one), nil), l, api.ErrState)
	isNotPicked(t, "long keys in the version", versionOf(l[:1]), always, api.ErrArg)
}

// P16.2, P16.4: keys of the greatest length, and a version as full as it can be.
func TestFullVersion(t *testing.T) {
	key := func(i int) string { return fmt.Sprintf("%06d", i) + strings.Repeat("k", 514) }
	v := api.Version{Log: mostNext, Next: mostNext, Seq: mostSeq}
	number := uint64(mostNumber)
	for level := range 4 {
		for i := range 64 {
			m := api.Meta{Number: number, Size: mostSize, Rows: mostSize, First: key(2 * i), Last: key(2*i + 1), Least: 1, Greatest: mostSeq}
			v.Levels[level] = append(v.Levels[level], m)
			number--
		}
	}
	slices.Reverse(v.Levels[0])
	isPicked(t, "a full version", v, api.PickOptions{Many: 64, Base: 1 << 30, Times: 1000}, compact(0, v.Levels[0], v.Levels[1]), api.OK)
	c := compact(0, v.Levels[0], v.Levels[1])
	isBottom(t, "a full version", v, c, false, api.OK)
	var want api.Edit
	for i, tables := range [][]api.Meta{c.In, c.Over} {
		for _, m := range tables {
			want.Gone = append(want.Gone, from(i, m.Number))
		}
	}
	out := list(api.Meta{Number: mostNumber, First: key(0), Last: key(127)})
	want.Added = []api.Placed{at(1, out[0])}
	isEdit(t, "a full version", v, c, out, want, api.OK)
	v.Levels[0] = v.Levels[0][1:]
	isPicked(t, "level 1 of a full version", v, api.PickOptions{Many: 64, Base: 1<<24 - 1, Times: 1}, compact(1, v.Levels[1][63:], v.Levels[2][63:]), api.OK)
	v.Levels[1] = nil
	isPicked(t, "level 2 of a full version", v, api.PickOptions{Many: 64, Base: 1 << 23, Times: 1}, compact(2, v.Levels[2][63:], v.Levels[3][63:]), api.OK)
}
