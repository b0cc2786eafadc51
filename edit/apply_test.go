package edit_test

import (
	"fmt"
	"math"
	"slices"
	"testing"

	"freshet/api"
	"freshet/edit"
)

// P14.2: Log, Next and Seq are replaced by those that are not 0, and which may not be less.
func TestApplyNumbers(t *testing.T) {
	for _, v := range []api.Version{edit.First(), four(), {Log: mostNext, Next: mostNext, Seq: mostSeq}, {Log: 5, Next: 5, Seq: 1}} {
		isApplied(t, "nothing", v, api.Edit{}, v, api.OK)
		for _, n := range numbersBy(v.Log, v.Next, v.Seq, mostNext, mostSeq) {
			want := v
			want.Log = max(n, v.Log)
			isNumber(t, fmt.Sprint("Log ", n), v, api.Edit{Log: n}, want, n != 0 && n < v.Log, n > mostNext)
			want = v
			want.Next = max(n, v.Next)
			isNumber(t, fmt.Sprint("Next ", n), v, api.Edit{Next: n}, want, n != 0 && n < v.Next, n > mostNext)
			want = v
			want.Seq = max(n, v.Seq)
			isNumber(t, fmt.Sprint("Seq ", n), v, api.Edit{Seq: n}, want, n != 0 && n < v.Seq, n > mostSeq)
		}
	}
	all := four()
	all.Log, all.Next, all.Seq = 8, 2000, 6000
	isApplied(t, "all three", four(), api.Edit{Log: 8, Next: 2000, Seq: 6000}, all, api.OK)
	isApplied(t, "the same three", all, api.Edit{Log: 8, Next: 2000, Seq: 6000}, all, api.OK)
}

// isNumber tests an edit that has one number, which may be too low, or above what a version may have.
func isNumber(t *testing.T, what string, v api.Version, e api.Edit, want api.Version, isLow, isHigh bool) {
	t.Helper()
	failure := api.OK
	switch {
	case isLow:
		failure = api.ErrArg
	case isHigh:
		failure = api.ErrState
	}
	if failure != api.OK {
		want = api.Version{}
	}
	isApplied(t, what, v, e, want, failure)
}

// noLevels are numbers that are no level.
var noLevels = []int{-1, 4, 5, -4, 64, 255, 256, 257, 1 << 32, 1<<32 + 1, 1 << 62, math.MaxInt, math.MinInt, math.MinInt + 1}

// P14.2: what isn't valid is told ahead of all else: the version, a lower number, a level, the metadata of a table.
func TestApplyErrArg(t *testing.T) {
	none, there, state := from(0, 12), at(2, table(3, "x", "y")), at(1, table(20, "b", "e"))
	later := []api.Edit{{}, goes(none), goes(from(0, 11), from(0, 11)), adds(there), adds(state), {Next: mostNext + 1}, {Gone: []api.Gone{none}, Added: []api.Placed{there, state}}}
	for i, e := range later {
		bad := four()
		bad.Levels[2] = append(bad.Levels[2], table(77, "a", "b"))
		isRefused(t, "a version that is not valid", bad, e, api.ErrArg)
		isRefused(t, "the zero version", api.Version{}, e, api.ErrArg)
		lower := e
		lower.Log = 6
		isRefused(t, "a lower Log", four(), lower, api.ErrArg)
		lower = e
		lower.Next = 999
		isRefused(t, "a lower Next", four(), lower, api.ErrArg)
		lower = e
		lower.Seq = 1
		isRefused(t, "a lower Seq", four(), lower, api.ErrArg)
		for _, level := range noLevels {
			off := e
			off.Gone = append(slices.Clone(e.Gone), from(level, 11))
			isRefused(t, fmt.Sprint("Gone of level ", level), four(), off, api.ErrArg)
			off = e
			off.Added = append(slices.Clone(e.Added), at(level, table(30, "x", "y")))
			isRefused(t, fmt.Sprint("Added of level ", level), four(), off, api.ErrArg)
			off.Added = append([]api.Placed{at(level, table(30, "x", "y"))}, e.Added...)
			isRefused(t, fmt.Sprint("Added of level ", level), four(), off, api.ErrArg)
		}
		bads := e
		bads.Added = append(slices.Clone(e.Added), at(1, api.Meta{Number: 30}))
		isRefused(t, fmt.Sprint("metadata that are not valid, ", i), four(), bads, api.ErrArg)
	}
}

// P14.2: each table of Gone is on its level, and is listed once.
func TestApplyErrNone(t *testing.T) {
	there, state := at(2, table(3, "x", "y")), at(1, table(20, "b", "e"))
	for level := range 4 {
		for number := range uint64(20) {
			is := slices.ContainsFunc(four().Levels[level], func(m api.Meta) bool { return m.Number == number })
			e := goes(from(level, number))
			if !is {
				isRefused(t, "not on its level", four(), e, api.ErrNone)
				isRefused(t, "behind one that is", four(), goes(from(0, 14), from(level, number)), api.ErrNone)
				isRefused(t, "ahead of one that is", four(), goes(from(level, number), from(0, 14)), api.ErrNone)
				isRefused(t, "ahead of other errors", four(), api.Edit{Next: mostNext + 1, Gone: e.Gone, Added: []api.Placed{there, state}}, api.ErrNone)
				isRefused(t, "added by the same edit", four(), both(from(level, number), at(level, table(number+100, "x", "y"))), api.ErrNone)
				continue
			}
			want := four()
			want.Levels[level] = slices.DeleteFunc(want.Levels[level], func(m api.Meta) bool { return m.Number == number })
			isApplied(t, "on its level", four(), e, want, api.OK)
			isRefused(t, "listed twice", four(), goes(from(level, number), from(level, number)), api.ErrNone)
			isRefused(t, "listed twice, of two levels", four(), goes(from(level, number), from((level+1)%4, number)), api.ErrNone)
			isRefused(t, "listed twice, with another one between them", four(), goes(from(level, number), from(3, 4), from(level, number)), api.ErrNone)
			isRefused(t, "listed twice, and added again", four(), api.Edit{Gone: []api.Gone{from(level, number), from(level, number)}, Added: []api.Placed{at(0, table(number, "a", "b"))}}, api.ErrNone)
		}
		for _, number := range []uint64{mostNumber, mostNext, 1 << 32, 1<<32 + 11, 1 << 56, math.MaxUint64} {
			isRefused(t, "no table has that Number", four(), goes(from(level, number)), api.ErrNone)
		}
	}
	// A table that is added by the same edit isn't there yet.
	isRefused(t, "added by the same edit", four(), both(from(1, 30), at(1, table(30, "x", "y"))), api.ErrNone)
	empty := four()
	empty.Levels = [4][]api.Meta{}
	var all []api.Gone
	for _, p := range placed(four()) {
		all = append(all, from(p.Level, p.Table.Number))
	}
	isApplied(t, "all tables", four(), goes(all...), empty, api.OK)
	slices.Reverse(all)
	isApplied(t, "all tables in another order", four(), goes(all...), empty, api.OK)
	isRefused(t, "all tables, and one of them again", four(), goes(append(all, all[0])...), api.ErrNone)
}

// P14.2: no table of Added has the Number of another one, or of one that stays.
func TestApplyErrThere(t *testing.T) {
	for _, p := range placed(four()) {
		n := p.Table.Number
		other := from(2, 9)
		if n == 9 {
			other = from(3, 4)
		}
		for level := range 4 {
			isRefused(t, "a Number that stays", four(), adds(at(level, table(n, "x", "y"))), api.ErrThere)
			isRefused(t, "a Number that stays, while another one goes", four(), both(other, at(level, table(n, "x", "y"))), api.ErrThere)
			isRefused(t, "ahead of ErrState", four(), api.Edit{Log: mostNext + 1, Added: []api.Placed{at(level, table(n, "x", "y"))}}, api.ErrThere)
		}
		isRefused(t, "the table itself", four(), adds(p), api.ErrThere)
		// It may be added again if it goes: on its level, and on another one.
		isApplied(t, "gone and added again", four(), both(from(p.Level, n), p), four(), api.OK)
	}
	for i := range 4 {
		for j := range 4 {
			one, two, three := at(i, table(30, "x", "x")), at(j, table(30, "y", "y")), at(1, table(31, "z", "z"))
			isRefused(t, "a Number twice", versionOf(), adds(one, two), api.ErrThere)
			isRefused(t, "a Number twice, with another one between them", versionOf(), adds(one, three, two), api.ErrThere)
			isRefused(t, "a table twice", versionOf(), adds(one, one), api.ErrThere)
			isRefused(t, "a Number twice, ahead of ErrState", versionOf(), api.Edit{Seq: 1 << 56, Added: []api.Placed{one, two}}, api.ErrThere)
		}
	}
}

// P14.2: what results has to be valid.
func TestApplyErrState(t *testing.T) {
	state := func(what string, v api.Version, e api.Edit) {
		t.Helper()
		isRefused(t, what, v, e, api.ErrState)
	}
	for i := range 4 {
		fits := table(30, "x", "y")
		with := func(m api.Meta) api.Version {
			v := four()
			v.Levels[3] = v.Levels[3][:2]
			v.Levels[i] = append(v.Levels[i], m)
			return v
		}
		v := with(fits)
		v.Levels[i] = v.Levels[i][:len(v.Levels[i])-1]
		isApplied(t, "a table that fits", v, adds(at(i, fits)), with(fits), api.OK)
		state("Log", v, api.Edit{Log: 100000000, Added: []api.Placed{at(i, fits)}})
		state("Next", v, api.Edit{Next: 100000000, Added: []api.Placed{at(i, fits)}})
		state("Seq", v, api.Edit{Seq: 1 << 56, Added: []api.Placed{at(i, fits)}})
		high := fits
		high.Number = 1000
		want := with(high)
		want.Next = 1001
		state("a Number that is Next", v, adds(at(i, high)))
		state("a Number that is the new Next", v, next(1000, at(i, high)))
		isApplied(t, "a Number below the new Next", v, next(1001, at(i, high)), want, api.OK)
		high = fits
		high.Greatest = 5001
		want = with(high)
		want.Seq = 5001
		state("a Greatest above Seq", v, adds(at(i, high)))
		state("a Greatest above the new Seq", v, api.Edit{Seq: 5000, Added: []api.Placed{at(i, high)}})
		isApplied(t, "a Greatest that is the new Seq", v, api.Edit{Seq: 5001, Added: []api.Placed{at(i, high)}}, want, api.OK)
	}
	for i := 1; i < 4; i++ {
		v := versionOf(at(i, table(1, "c", "e")), at(i, table(2, "k", "m")))
		for _, x := range [][2]string{{"a", "c"}, {"c", "c"}, {"d", "d"}, {"e", "e"}, {"e", "f"}, {"a", "z"}, {"e\x00", "k"}, {"l", "l"}, {"m", "z"}, {"f", "z"}} {
			state("it overlaps", v, adds(at(i, table(30, x[0], x[1]))))
			state("it overlaps if only one goes", v, both(from(i, 1), at(i, table(30, x[0], "zz"))))
		}
		state("two that are added overlap", v, adds(at(i, table(30, "x", "y")), at(i, table(31, "y", "z"))))
		state("two that are added have the same keys", v, adds(at(i, table(30, "x", "y")), at(i, table(31, "x", "y"))))
		isApplied(t, "it overlaps what goes", v, both(from(i, 1), at(i, table(30, "a", "j"))), versionOf(at(i, table(30, "a", "j")), at(i, table(2, "k", "m"))), api.OK)
	}
}

// P14.2: a level gets at most 64 tables, those that go not counted.
func TestApplyMany(t *testing.T) {
	for i := range 4 {
		for _, n := range []int{62, 63, 64} {
			all := manyTables(n, 1)
			v := versionOf()
			v.Levels[i] = all
			for more := range 4 {
				var e api.Edit
				want := v
				for k, m := range manyTables(n+more, 1)[n:] {
					e.Added = append(e.Added, at(i, m))
					want.Levels[i] = append(slices.Clone(want.Levels[i]), e.Added[k].Table)
				}
				failure := api.OK
				if n+more > 64 {
					want, failure = api.Version{}, api.ErrState
				}
				isApplied(t, fmt.Sprint(n, " tables and ", more, " more on level ", i), v, e, want, failure)
				if failure == api.OK || n+more-64 > more {
					continue
				}
				want = v
				for k := range n + more - 64 {
					e.Gone = append(e.Gone, from(i, all[k].Number))
				}
				want.Levels[i] = manyTables(n+more, 1)[n+more-64:]
				isApplied(t, "as many go as are too many", v, e, want, api.OK)
			}
		}
	}
}

// P14.2: tables are inserted so that Numbers ascend on level 0, and First keys on the others, in whatever order they are listed.
func TestApplyOrder(t *testing.T) {
	four := []api.Meta{table(4, "m", "n"), table(9, "a", "b"), table(6, "x", "z"), table(5, "c", "d")}
	there := table(7, "f", "k")
	for i := range 4 {
		for which := range 24 {
			order := permuted(four, which)
			var e api.Edit
			for _, m := range order {
				e.Added = append(e.Added, at(i, m))
			}
			want := versionOf(at(i, four[1]), at(i, four[3]), at(i, there), at(i, four[0]), at(i, four[2]))
			if i == 0 {
				want = versionOf(at(0, four[0]), at(0, four[3]), at(0, four[2]), at(0, there), at(0, four[1]))
			}
			isApplied(t, fmt.Sprint("the order ", which, " of level ", i), versionOf(at(i, there)), e, want, api.OK)
			want.Levels[i] = slices.DeleteFunc(slices.Clone(want.Levels[i]), func(m api.Meta) bool { return m == there })
			e.Gone = []api.Gone{from(i, 7)}
			isApplied(t, "the same, while one goes", versionOf(at(i, there)), e, want, api.OK)
		}
	}
}

// permuted returns the elements in one of their orders.
func permuted[E any](l []E, which int) []E {
	l = slices.Clone(l)
	var out []E
	for len(l) > 0 {
		i := which % len(l)
		which /= len(l)
		out = append(out, l[i])
		l = slices.Delete(l, i, i+1)
	}
	return out
}

// P14.2: a table may go from one level and be added to another, by its Number, with the same metadata or others.
func TestApplyMove(t *testing.T) {
	for i := range 4 {
		for j := range 4 {
			v := versionOf(at(i, table(5, "a", "b")), at(i, table(8, "k", "m")))
			want := versionOf(at(i, table(8, "k", "m")))
			want.Levels[j] = slices.Insert(want.Levels[j], 0, table(5, "a", "c"))
			isApplied(t, fmt.Sprint("from ", i, " to ", j), v, both(from(i, 5), at(j, table(5, "a", "c"))), want, api.OK)
		}
	}
}

// P14.3: Whole has all tables, level by level, in order; that of a version that is not valid is empty.
func TestWhole(t *testing.T) {
	if e := edit.Whole(edit.First()); !sameEdit(e, api.Edit{Log: 1, Next: 1}) {
		t.Errorf("Whole of the first version: %s", toldEdit(e))
	}
	want := api.Edit{Log: 7, Next: 1000, Seq: 5000, Added: []api.Placed{
		at(0, table(11, "a", "z")), at(0, table(14, "c", "d")), at(0, table(17, "a", "c")),
		at(1, table(13, "a", "c")), at(1, table(12, "ca", "d")), at(2, table(9, "b", "bb")),
		at(3, table(5, "\x00", "a")), at(3, table(3, "b", "k")), at(3, table(4, "l", "\xff"))}}
	if e := edit.Whole(four()); !sameEdit(e, want) || len(e.Gone) != 0 {
		t.Errorf("Whole of four levels: %s", toldEdit(e))
	}
	bad := four()
	bad.Levels[3][1].Size = 0
	for _, v := range []api.Version{bad, {}, {Log: 1}, {Next: 1}, {Log: 1, Next: 1, Seq: 1 << 56}} {
		if e := edit.Whole(v); !sameEdit(e, api.Edit{}) {
			t.Errorf("Whole of %s: %s", told(v), toldEdit(e))
		}
	}
}

// full has as many tables as a version may have.
func full() api.Version {
	v := open()
	for i := range 4 {
		v.Levels[i] = manyTables(64, uint64(1000*(4-i)))
	}
	return v
}

// P14.5: Apply of the first version and of Whole of a valid version is that version.
func TestApplyWhole(t *testing.T) {
	for _, v := range []api.Version{edit.First(), four(), full(), open(), {Log: 3, Next: 1, Seq: 0}, {Log: 1, Next: 3, Seq: 0}, {Log: 1, Next: 1, Seq: 3}} {
		isApplied(t, "Whole", edit.First(), edit.Whole(v), v, api.OK)
		if got, _ := edit.Apply(edit.First(), edit.Whole(v)); !edit.Same(got, v) || !edit.Right(got) {
			t.Errorf("Apply of Whole of %s: %s", told(v), told(got))
		}
	}
}

// P14.7: an edit whose Gone lists the tables that another one added restores the tables.
func TestApplyInverse(t *testing.T) {
	e := api.Edit{Log: 9, Next: 2000, Seq: 7000, Added: []api.Placed{at(3, table(1500, "ab", "ac")), at(0, table(100, "a", "b")), at(1, table(1999, "e", "f")), at(0, table(1, "x", "y")), at(2, table(12345, "zz", "zzz"))}}
	e.Next = 20000
	after, failure := edit.Apply(four(), e)
	if failure != api.OK {
		t.Fatal(failure)
	}
	want := four()
	want.Log, want.Next, want.Seq = 9, 20000, 7000
	isApplied(t, "the inverse", after, inverse(e), want, api.OK)
}

// inverse lists the tables of Added as Gone.
func inverse(e api.Edit) api.Edit {
	var out api.Edit
	for _, p := range e.Added {
		out.Gone = append(out.Gone, from(p.Level, p.Table.Number))
	}
	return out
}
