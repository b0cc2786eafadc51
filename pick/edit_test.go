package pick_test

import (
	"fmt"
	"math"
	"slices"
	"testing"

	"freshet/api"
	"freshet/edit"
	"freshet/pick"
)

// from is a table that goes from a level, at is one that is added to a level.
func from(level int, number uint64) api.Gone { return api.Gone{Level: level, Number: number} }
func at(level int, m api.Meta) api.Placed    { return api.Placed{Level: level, Table: m} }

// P16.4: In goes first and then Over, in their order, and out comes to the next level, in its order.
func TestEdit(t *testing.T) {
	v := four()
	for level := range 3 {
		in, over := v.Levels[level], v.Levels[level+1]
		var gone []api.Gone
		for _, m := range in {
			gone = append(gone, from(level, m.Number))
		}
		for _, m := range over {
			gone = append(gone, from(level+1, m.Number))
		}
		one, two, three := table(20, "m", "n"), table(2, "b", "c"), table(999, "c", "d")
		outs := [][]api.Meta{nil, {}, {one}, {one, two}, {two, one, three}}
		for _, out := range outs {
			want := api.Edit{Gone: gone}
			for _, m := range out {
				want.Added = append(want.Added, at(level+1, m))
			}
			isEdit(t, fmt.Sprint("all tables of level ", level), v, compact(level, in, over), out, want, api.OK)
		}
		// In another order, and not all of them.
		some, others := list(in[2], in[0]), list(over[1])
		isEdit(t, fmt.Sprint("some tables of level ", level), v, compact(level, some, others), nil, api.Edit{Gone: []api.Gone{from(level, in[2].Number), from(level, in[0].Number), from(level+1, over[1].Number)}}, api.OK)
		isEdit(t, fmt.Sprint("In alone, of level ", level), v, compact(level, some, nil), list(table(30, "c", "c")), api.Edit{Gone: []api.Gone{from(level, in[2].Number), from(level, in[0].Number)}, Added: []api.Placed{at(level+1, table(30, "c", "c"))}}, api.OK)
		isEdit(t, fmt.Sprint("Over alone, of level ", level), v, compact(level, nil, list(over[2], over[1])), nil, api.Edit{Gone: []api.Gone{from(level+1, over[2].Number), from(level+1, over[1].Number)}}, api.OK)
		isEdit(t, fmt.Sprint("nothing of level ", level), v, api.Compact{Level: level}, nil, api.Edit{}, api.OK)
		isEdit(t, fmt.Sprint("nothing of level ", level, " in empty lists"), v, compact(level, []api.Meta{}, []api.Meta{}), []api.Meta{}, api.Edit{}, api.OK)
		isEdit(t, "no tables", edit.First(), api.Compact{Level: level}, nil, api.Edit{}, api.OK)
	}
}

// P16.4: ErrArg comes ahead of ErrState, for a version that is not valid and for a level that is none.
func TestEditErrArg(t *testing.T) {
	v := four()
	in, over := v.Levels[0], v.Levels[1]
	cs := []api.Compact{{}, compact(0, in, over), compact(0, list(in[0], in[0]), over), compact(0, over, in), compact(0, nil, list(api.Meta{}))}
	for _, c := range cs {
		for _, out := range [][]api.Meta{nil, list(table(20, "b", "c")), list(api.Meta{}), list(table(mostNext, "zz", "a"))} {
			for _, bad := range badVersions() {
				isNoEdit(t, "a version that is not valid", bad, c, out, api.ErrArg)
			}
			for _, level := range noLevels {
				off := c
				off.Level = level
				isNoEdit(t, fmt.Sprint("level ", level), v, off, out, api.ErrArg)
				isNoEdit(t, fmt.Sprint("level ", level, " of no tables"), edit.First(), off, out, api.ErrArg)
				isNoEdit(t, fmt.Sprint("level ", level, " of no tables and a compaction of none"), edit.First(), api.Compact{Level: level}, out, api.ErrArg)
			}
		}
	}
}

// changed are copies of a table that differ in one field.
func changed(m api.Meta) []api.Meta {
	l := slices.Repeat([]api.Meta{m}, 9)
	l[0].Number += 100
	l[1].Size++
	l[2].Rows--
	l[3].First += "\x00"
	l[4].Last = m.Last[:max(len(m.Last), 1)-1]
	l[5].Least++
	l[6].Greatest++
	l[7].Number = 0
	l[8] = api.Meta{Number: m.Number}
	return l
}

// P16.4: each table of In and Over is equal, in all fields, to one of its level.
func TestEditOfOtherTables(t *testing.T) {
	v := four()
	for level := range 3 {
		in, over := v.Levels[level], v.Levels[level+1]
		for i := range 3 {
			ins, overs := slices.Clone(in), slices.Clone(over)
			for _, m := range changed(in[i]) {
				ins[i] = m
				isNoEdit(t, "In has another table", v, compact(level, ins, over), nil, api.ErrState)
				isNoEdit(t, "In has another table alone", v, compact(level, list(m), nil), nil, api.ErrState)
			}
			for _, m := range changed(over[i]) {
				overs[i] = m
				isNoEdit(t, "Over has another table", v, compact(level, in, overs), nil, api.ErrState)
				isNoEdit(t, "Over has another table alone", v, compact(level, nil, list(m)), nil, api.ErrState)
			}
		}
		// Tables of the version, but of another level than theirs.
		for where := range 4 {
			wantIn, wantOver := api.ErrState, api.ErrState
			var ofIn, ofOver api.Edit
			for _, m := range v.Levels[where] {
				if where == level {
					wantIn, ofIn = api.OK, api.Edit{Gone: []api.Gone{from(level, m.Number)}}
				}
				if where == level+1 {
					wantOver, ofOver = api.OK, api.Edit{Gone: []api.Gone{from(level+1, m.Number)}}
				}
				isEdit(t, fmt.Sprint("In of level ", where), v, compact(level, list(m), nil), nil, ofIn, wantIn)
				isEdit(t, fmt.Sprint("Over of level ", where), v, compact(level, nil, list(m)), nil, ofOver, wantOver)
			}
		}
		isNoEdit(t, "In and Over changed places", v, compact(level, over, in), nil, api.ErrState)
		isNoEdit(t, "a version without tables", edit.First(), compact(level, in, over), nil, api.ErrState)
	}
}

// P16.4: no Number stands twice in In and Over.
func TestEditNumberTwice(t *testing.T) {
	v := four()
	for level := range 3 {
		in, over := v.Levels[level], v.Levels[level+1]
		for i := range 3 {
			for j := range 4 {
				isNoEdit(t, "twice in In", v, compact(level, slices.Insert(slices.Clone(in), j, in[i]), over), nil, api.ErrState)
				isNoEdit(t, "twice in Over", v, compact(level, in, slices.Insert(slices.Clone(over), j, over[i])), nil, api.ErrState)
			}
			isNoEdit(t, "twice in In alone", v, compact(level, list(in[i], in[i]), nil), nil, api.ErrState)
			isNoEdit(t, "twice in Over alone", v, compact(level, nil, list(over[i], over[i])), nil, api.ErrState)
			isNoEdit(t, "in In and in Over", v, compact(level, list(in[i]), list(in[i])), nil, api.ErrState)
			isNoEdit(t, "in Over and in In", v, compact(level, list(over[i]), list(over[i])), nil, api.ErrState)
		}
	}
}

// P16.4: a Number of out is from 1 to 99999998, whether the version has come to it or not; Next is one more than the greatest one, if it is above that of the version.
func TestEditNumbers(t *testing.T) {
	numbers := []uint64{0, 1, 2, 12, 16, 17, 18, 19, 997, 998, 999, 1000, 1001, 5000, mostNumber - 1, mostNumber, mostNext, mostNext + 1, 1 << 32, 1<<32 + 1, 1 << 56, 1 << 63, math.MaxUint64 - 1, math.MaxUint64}
	is := func(n uint64) bool { return n >= 1 && n <= 99999998 }
	next := func(n, than uint64) uint64 {
		if n+1 > than {
			return n + 1
		}
		return 0
	}
	for _, newest := range []uint64{19, 999, 1000, 1001, mostNumber, mostNext} {
		v := four()
		v.Next = newest
		c := compact(1, v.Levels[1], v.Levels[2])
		gone := []api.Gone{from(1, 13), from(1, 12), from(1, 18), from(2, 9), from(2, 8), from(2, 10)}
		isEdit(t, "no table", v, c, nil, api.Edit{Gone: gone}, api.OK)
		for _, n := range numbers {
			m := table(n, "c", "d")
			if is(n) {
				isEdit(t, fmt.Sprint("Number ", n), v, c, list(m), api.Edit{Next: next(n, newest), Gone: gone, Added: []api.Placed{at(2, m)}}, api.OK)
			} else {
				isNoEdit(t, fmt.Sprint("Number ", n), v, c, list(m), api.ErrState)
			}
			for _, o := range numbers {
				m, k := table(n, "c", "d"), table(o, "k", "l")
				if is(n) && is(o) {
					isEdit(t, fmt.Sprint("Numbers ", n, " and ", o), v, c, list(m, k), api.Edit{Next: next(max(n, o), newest), Gone: gone, Added: []api.Placed{at(2, m), at(2, k)}}, api.OK)
				} else {
					isNoEdit(t, fmt.Sprint("Numbers ", n, " and ", o), v, c, list(m, k), api.ErrState)
					isNoEdit(t, fmt.Sprint("Numbers 20, ", n, " and ", o), v, c, list(table(20, "a", "b"), m, k), api.ErrState)
				}
			}
		}
	}
}

// P16.4: First and Last of out lie within the span of In and Over together, whichever of these has its edges.
func TestEditWithinSpan(t *testing.T) {
	keys := []string{"", "a", "b", "b\x00", "c", "d", "d\x00", "e", "f"}
	inner, low, high := table(20, "c", "c"), table(21, "b", "bb"), table(22, "cc", "d")
	outer := table(23, "b", "d")
	for level := range 3 {
		test := func(in, over []api.Meta) {
			t.Helper()
			v := versionOf()
			v.Levels[level], v.Levels[level+1] = in, over
			c := compact(level, in, over)
			goes, failure := pick.Edit(v, c, nil)
			if failure != api.OK {
				t.Fatal(failure)
			}
			for _, first := range keys {
				for _, last := range keys {
					m := table(30, first, last)
					want := goes
					want.Added = []api.Placed{at(level+1, m)}
					if first < "b" || last > "d" {
						want, failure = api.Edit{}, api.ErrState
					} else {
						failure = api.OK
					}
					isEdit(t, fmt.Sprintf("%q to %q of level %d", first, last, level), v, c, list(m), want, failure)
					if failure != api.OK {
						isNoEdit(t, "behind one that lies within", v, c, list(table(31, "c", "c"), m), api.ErrState)
						isNoEdit(t, "ahead of one that lies within", v, c, list(m, table(31, "c", "c")), api.ErrState)
					}
				}
			}
		}
		test(list(outer), nil)
		test(list(outer), list(inner))
		test(list(inner), list(outer))
		test(nil, list(outer))
		test(list(low), list(high))
		test(list(high), list(low))
		test(list(low, high), nil)
		test(nil, list(low, high))
		test(list(low, high), list(inner))
		test(list(inner), list(low, high))
	}
	// On level 0 the table with the edges can stand anywhere.
	all := list(table(20, "c", "c"), table(21, "b", "d"), table(22, "bb", "cc"))
	v := versionOf(all)
	for _, c := range []api.Compact{compact(0, all, nil), compact(0, list(all[1], all[0]), nil), compact(0, list(all[2], all[1]), nil)} {
		for _, out := range [][]api.Meta{list(table(30, "a", "c")), list(table(30, "c", "e")), list(table(30, "a", "e"))} {
			isNoEdit(t, "outside of the span", v, c, out, api.ErrState)
		}
		var e api.Edit
		for _, m := range c.In {
			e.Gone = append(e.Gone, from(0, m.Number))
		}
		e.Added = []api.Placed{at(1, table(30, "b", "d"))}
		isEdit(t, "the whole span", v, c, list(table(30, "b", "d")), e, api.OK)
	}
	isNoEdit(t, "the span of what is merged, not of the level", v, compact(0, list(all[0], all[2]), nil), list(table(30, "b", "c")), api.ErrState)
}

// P16.4: with nothing in In and Over, there is no span, and no table can be in out.
func TestEditOfNothing(t *testing.T) {
	for _, v := range []api.Version{edit.First(), four()} {
		for level := range 3 {
			for _, m := range []api.Meta{table(20, "a", "b"), {}, table(1, "", ""), table(1, "\xff", ""), table(mostNumber, "", "\xff\xff")} {
				isNoEdit(t, "nothing in In and Over", v, api.Compact{Level: level}, list(m), api.ErrState)
				isNoEdit(t, "nothing in In and Over", v, api.Compact{Level: level}, list(m, m), api.ErrState)
			}
		}
	}
}

// P16.4: nothing else is asked of out: neither valid metadata, nor an order, nor that Numbers are new; nor is it asked that Over has all tables that overlap.
func TestEditOfAnyOut(t *testing.T) {
	v := four()
	c := compact(0, list(v.Levels[0][0]), nil)
	gone := []api.Gone{from(0, 11)}
	for _, out := range [][]api.Meta{
		list(api.Meta{Number: 5, First: "d", Last: "a"}),
		list(api.Meta{Number: 5, First: "x", Last: ""}),
		list(api.Meta{Number: 5, Size: -1, Rows: mostSize + 1, First: "b", Last: "c", Least: 9, Greatest: 1 << 63}),
		list(table(5, "c", "d"), table(5, "a", "b")),
		list(table(5, "a", "d"), table(5, "a", "d"), table(11, "b", "c"), table(14, "b", "c")),
	} {
		e := api.Edit{Gone: gone}
		for _, m := range out {
			e.Added = append(e.Added, at(1, m))
		}
		isEdit(t, "any tables", v, c, out, e, api.OK)
	}
}
