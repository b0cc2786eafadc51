package pick_test

import (
	"fmt"
	"testing"

	"freshet/api"
	"freshet/edit"
	"freshet/pick"
)

// P16.1 to P16.3: the chapter's examples.
func TestExamples(t *testing.T) {
	o := api.PickOptions{Many: 2, Base: 100, Times: 10}
	one, two := table(1, "a", "c"), table(2, "b", "d")
	three, four := sized(3, 60, "a", "a"), sized(4, 50, "e", "f")
	v := versionOf(list(one, two), list(three, four))
	c := compact(0, list(one, two), list(three))
	isPicked(t, "two tables of level 0", v, o, c, api.OK)
	isBottom(t, "two tables of level 0", v, c, true, api.OK)
	isPicked(t, "level 1 alone", versionOf(nil, list(three, four)), o, compact(1, list(three), nil), api.OK)
	isNotPicked(t, "the first version", edit.First(), o, api.ErrNone)
}

// P16.1: each option at its edges, together with each of the others.
func TestCheck(t *testing.T) {
	manys, bases, times := []int{0, 1, 2, 63, 64, 65}, []int{0, 1, 2, 1<<30 - 1, 1 << 30, 1<<30 + 1}, []int{0, 1, 2, 999, 1000, 1001}
	isChecked := func(o api.PickOptions, is bool) {
		t.Helper()
		want := api.ErrArg
		if is {
			want = api.OK
		}
		if got := pick.Check(o); got != want {
			t.Errorf("Check of %v: %v, want %v", o, got, want)
		}
		if got := slowCheck(o); got != want {
			t.Errorf("the test's own Check of %v: %v, want %v", o, got, want)
		}
	}
	for i, many := range manys {
		for j, base := range bases {
			for k, time := range times {
				is := i > 0 && i < 5 && j > 0 && j < 5 && k > 0 && k < 5
				isChecked(api.PickOptions{Many: many, Base: base, Times: time}, is)
			}
		}
	}
	for _, n := range edges(64, 1000, 1<<30) {
		isChecked(api.PickOptions{Many: n, Base: 7, Times: 7}, n >= 1 && n <= 64)
		isChecked(api.PickOptions{Many: 7, Base: n, Times: 7}, n >= 1 && n <= 1<<30)
		isChecked(api.PickOptions{Many: 7, Base: 7, Times: n}, n >= 1 && n <= 1000)
		isChecked(api.PickOptions{Many: n, Base: n, Times: n}, n >= 1 && n <= 64)
	}
}

// P16.1, P16.7: all tables with these keys, also those whose First is greater than their Last; nothing else of them counts.
func TestOverlap(t *testing.T) {
	keys := []string{"", "\x00", "a", "a\x00", "aa", "b", "\x7f", "\x80", "\xff", "\xff\xff"}
	for i, a := range keys {
		for j, b := range keys {
			for k, c := range keys {
				for l, d := range keys {
					one, two := table(1, a, b), table(2, c, d)
					want := j >= k && l >= i
					for _, other := range []api.Meta{two, {First: c, Last: d}, {Number: 1, Size: -1, Rows: 1 << 40, First: c, Last: d, Least: 9, Greatest: 3}} {
						if got := pick.Overlap(one, other); got != want || slowOverlap(one, other) != want {
							t.Errorf("Overlap of %q to %q, %q to %q: %v", a, b, c, d, got)
						}
						if pick.Overlap(other, one) != want {
							t.Errorf("Overlap of %q to %q, %q to %q isn't symmetric", a, b, c, d)
						}
					}
				}
			}
			if one := table(1, a, b); pick.Overlap(one, one) != (i <= j) {
				t.Errorf("%q to %q overlaps itself: %v", a, b, i > j)
			}
		}
	}
	if !pick.Overlap(api.Meta{}, api.Meta{}) || !pick.Overlap(api.Meta{}, table(1, "", "a")) || pick.Overlap(api.Meta{}, table(1, "a", "b")) {
		t.Error("the zero table has the empty key")
	}
}

// always are options by which a compaction is due wherever there are tables.
var always = api.PickOptions{Many: 1, Base: 1, Times: 1}

// badOptions are some that are not valid, each for one number.
func badOptions() []api.PickOptions {
	var l []api.PickOptions
	for _, n := range []int{0, -1, 65, 1 << 32, -1 << 63} {
		l = append(l, api.PickOptions{Many: n, Base: 1, Times: 1})
	}
	for _, n := range []int{0, -1, 1<<30 + 1, -1 << 63} {
		l = append(l, api.PickOptions{Many: 1, Base: n, Times: 1})
	}
	for _, n := range []int{0, -1, 1001, -1 << 63} {
		l = append(l, api.PickOptions{Many: 1, Base: 1, Times: n})
	}
	return append(l, api.PickOptions{})
}

// P16.2: versions and options that are not valid are told ahead of all else.
func TestPickErrArg(t *testing.T) {
	none := api.PickOptions{Many: 64, Base: 1 << 30, Times: 1000}
	for _, v := range badVersions() {
		if edit.Right(v) {
			t.Fatalf("%s is valid", toldVersion(v))
		}
		isNotPicked(t, "a version that is not valid", v, always, api.ErrArg)
		isNotPicked(t, "a version that is not valid, and nothing is due", v, none, api.ErrArg)
		isNotPicked(t, "neither is valid", v, api.PickOptions{}, api.ErrArg)
	}
	for _, o := range badOptions() {
		isNotPicked(t, "options that are not valid", four(), o, api.ErrArg)
		isNotPicked(t, "options that are not valid, and no tables", edit.First(), o, api.ErrArg)
	}
}

// P16.2: no compaction is due where there is too little; tables of level 3 have none.
func TestPickErrNone(t *testing.T) {
	isNotPicked(t, "no tables", edit.First(), always, api.ErrNone)
	isNotPicked(t, "no tables", versionOf(), always, api.ErrNone)
	deep := versionOf(nil, nil, nil, list(sized(1, mostSize, "a", "b"), sized(2, mostSize, "c", "d")))
	isNotPicked(t, "level 3 alone", deep, always, api.ErrNone)
	deep.Levels[3] = manyTables(64, 1)
	isNotPicked(t, "level 3 alone, full", deep, always, api.ErrNone)
	isNotPicked(t, "few of each level", four(), api.PickOptions{Many: 4, Base: 300, Times: 1}, api.ErrNone)
	full := versionOf(manyTables(63, 1), manyTables(64, 101), manyTables(64, 201), manyTables(64, 301))
	isNotPicked(t, "nearly full", full, api.PickOptions{Many: 64, Base: 6400, Times: 1}, api.ErrNone)
}

// P16.2: at level 0 a compaction is due at Many tables, of which it has all, however small they are.
func TestPickLevel0(t *testing.T) {
	for n := range 65 {
		v := versionOf(manyTables(n, 1))
		for i := range v.Levels[0] {
			v.Levels[0][i].Size = 1 + 999*i
		}
		for many := 1; many <= 64; many++ {
			o := api.PickOptions{Many: many, Base: 1, Times: 1}
			if n < many {
				isNotPicked(t, fmt.Sprint(n, " tables of level 0"), v, o, api.ErrNone)
			} else {
				isPicked(t, fmt.Sprint(n, " tables of level 0"), v, o, compact(0, v.Levels[0], nil), api.OK)
			}
		}
	}
	// How many there are of other levels doesn't count.
	v := versionOf(list(table(900, "a", "b")), manyTables(64, 1), manyTables(64, 101), manyTables(64, 201))
	isNotPicked(t, "one of level 0 and many others", v, api.PickOptions{Many: 2, Base: 6400, Times: 1}, api.ErrNone)
}

// P16.2: at level 1 a compaction is due above Base, at level 2 above Base times Times; how many tables there are doesn't count, nor what other levels have.
func TestPickSizes(t *testing.T) {
	for _, sizes := range [][]int{{1}, {2}, {100}, {1, 1}, {60, 50}, {1, 1000, 1}, {mostSize}, {mostSize, mostSize, mostSize}} {
		sum := 0
		l := manyTables(len(sizes), 30)
		for i, n := range sizes {
			l[i].Size = n
			sum += n
		}
		for level := range 4 {
			v := versionOf()
			v.Levels[level] = l
			in := compact(level, l[:1], nil)
			for _, base := range []int{sum - 1, sum, sum + 1, sum / 2, sum / 3, 1, 1 << 30} {
				for _, times := range []int{1, 2, 3, 1000} {
					o := api.PickOptions{Many: 64, Base: max(base, 1), Times: times}
					isDue := level == 1 && sum > o.Base || level == 2 && sum > o.Base*o.Times
					if !isDue {
						isNotPicked(t, fmt.Sprint("the sizes ", sizes, " of level ", level), v, o, api.ErrNone)
						continue
					}
					isPicked(t, fmt.Sprint("the sizes ", sizes, " of level ", level), v, o, in, api.OK)
				}
			}
		}
	}
	full := func(level int) api.Version {
		v := versionOf()
		v.Levels[level] = manyTables(64, 100)
		for i := range v.Levels[level] {
			v.Levels[level][i].Size = mostSize
		}
		return v
	}
	// The levels' greatest Size is 2^24.
	for base := 1<<24 - 1; base <= 1<<24; base++ {
		for level := 1; level < 3; level++ {
			v, o := full(level), api.PickOptions{Many: 1, Base: base, Times: 1}
			if base == 1<<24 {
				isNotPicked(t, "the greatest Size", v, o, api.ErrNone)
			} else {
				isPicked(t, "the greatest Size", v, o, compact(level, v.Levels[level][:1], nil), api.OK)
			}
		}
	}
	isNotPicked(t, "the greatest options", full(2), api.PickOptions{Many: 64, Base: 1 << 30, Times: 1000}, api.ErrNone)
	isPicked(t, "Base times Times is 16777000", full(2), api.PickOptions{Many: 64, Base: 16777, Times: 1000}, compact(2, full(2).Levels[2][:1], nil), api.OK)
	isNotPicked(t, "Base times Times is 16778000", full(2), api.PickOptions{Many: 64, Base: 16778, Times: 1000}, api.ErrNone)
}

// P16.2: of those that are due, the compaction at the lowest level is picked.
func TestPickLowest(t *testing.T) {
	v := four()
	ins := [][]api.Meta{v.Levels[0], list(v.Levels[1][1]), list(v.Levels[2][1])}
	overs := [][]api.Meta{v.Levels[1][:2], list(v.Levels[2][1]), list(v.Levels[3][1])}
	for many := 2; many < 5; many++ {
		for _, base := range []int{100, 299, 300} {
			for _, times := range []int{1, 2, 3} {
				o := api.PickOptions{Many: many, Base: base, Times: times}
				level := 3
				switch {
				case many < 4:
					level = 0
				case base < 300:
					level = 1
				}
				if level == 3 {
					isNotPicked(t, "no level", v, o, api.ErrNone)
					continue
				}
				isPicked(t, fmt.Sprint("level ", level), v, o, compact(level, ins[level], overs[level]), api.OK)
			}
		}
	}
	// Level 2 is due while the ones ahead of it are not.
	v.Levels[2][0].Size = 101
	isPicked(t, "level 2", v, api.PickOptions{Many: 4, Base: 300, Times: 1}, compact(2, ins[2], overs[2]), api.OK)
	v.Levels[2][2].Size = 500
	isPicked(t, "level 2", v, api.PickOptions{Many: 4, Base: 350, Times: 2}, compact(2, ins[2], overs[2]), api.OK)
	isNotPicked(t, "level 2", v, api.PickOptions{Many: 4, Base: 351, Times: 2}, api.ErrNone)
	v.Levels[0], v.Levels[1] = nil, nil
	isPicked(t, "level 2, without the ones ahead of it", v, api.PickOptions{Many: 1, Base: 1, Times: 1}, compact(2, ins[2], overs[2]), api.OK)
	v.Levels[1] = four().Levels[1]
	isPicked(t, "level 1, without the one ahead of it", v, api.PickOptions{Many: 1, Base: 1, Times: 1}, compact(1, ins[1], overs[1]), api.OK)
}

// P16.2: on levels 1 and 2 the table with the lowest Number is picked, wherever it stands and whatever else it is.
func TestPickOldest(t *testing.T) {
	for _, n := range []int{1, 2, 3, 10, 64} {
		for which := range n {
			for level := 1; level < 3; level++ {
				v := versionOf()
				v.Levels[level] = manyTables(n, 100)
				m := &v.Levels[level][which]
				m.Number, m.Size, m.Rows, m.Least, m.Greatest = 99, 2+which%7, 1+which%5, uint64(1+which%3), uint64(4+which%3)
				isPicked(t, fmt.Sprint("table ", which, " of ", n), v, always, compact(level, list(*m), nil), api.OK)
			}
		}
	}
}

// P16.2: Over has all tables of the next level that overlap the span, from one edge to the other, and those in a gap of In.
func TestPickOver(t *testing.T) {
	at := []string{"a", "b", "c", "d", "e", "f", "g", "h", "i", "j"}
	var next []api.Meta
	for i, key := range at {
		next = append(next, table(uint64(500-i), key, key+"x"))
	}
	keys := []string{"A", "a", "aw", "ax", "ay", "b", "bx", "c", "cc", "cx", "cx\x00", "e", "f", "fy", "i", "ix", "j", "jx", "k"}
	isKept := func(first, last string) []api.Meta {
		var over []api.Meta
		for _, m := range next {
			if m.First <= last && m.Last >= first {
				over = append(over, m)
			}
		}
		return over
	}
	for i, first := range keys {
		for _, last := range keys[i:] {
			for level := range 3 {
				v := versionOf()
				in := list(table(7, first, last))
				v.Levels[level], v.Levels[level+1] = in, next
				isPicked(t, fmt.Sprintf("%q to %q of level %d", first, last, level), v, api.PickOptions{Many: 1, Base: 99, Times: 1}, compact(level, in, isKept(first, last)), api.OK)
			}
			// Two tables of level 0, in both orders, with a gap between them if there is one.
			for _, in := range [][]api.Meta{list(table(7, first, first), table(8, last, last)), list(table(7, last, last), table(8, first, first)), list(table(7, first, last), table(8, first, first)), list(table(7, last, last), table(8, first, last))} {
				v := versionOf(in, next)
				isPicked(t, fmt.Sprintf("%q and %q of level 0", first, last), v, api.PickOptions{Many: 2, Base: 1, Times: 1}, compact(0, in, isKept(first, last)), api.OK)
			}
		}
	}
	// Only the next level counts, and only the table that is picked.
	v := versionOf(nil, list(table(3, "b", "bb"), table(2, "k", "l"), table(4, "m", "n")), list(table(10, "a", "d"), table(9, "n", "o")), next)
	isPicked(t, "no table of level 2 overlaps", v, always, compact(1, list(table(2, "k", "l")), nil), api.OK)
}

// P16.3: a level that is none, and a version that is not valid, are told ahead of all else.
func TestBottomErrArg(t *testing.T) {
	v := four()
	for _, c := range []api.Compact{{}, compact(0, v.Levels[0], v.Levels[1]), compact(1, list(table(77, "k", "l")), nil), compact(2, nil, list(api.Meta{}))} {
		for _, bad := range badVersions() {
			isBottom(t, "a version that is not valid", bad, c, false, api.ErrArg)
		}
		for _, level := range noLevels {
			c.Level = level
			isBottom(t, fmt.Sprint("level ", level), v, c, false, api.ErrArg)
			isBottom(t, fmt.Sprint("level ", level, " of no tables"), edit.First(), c, false, api.ErrArg)
			isBottom(t, fmt.Sprint("level ", level, " and nothing else"), v, api.Compact{Level: level}, false, api.ErrArg)
		}
	}
}

// P16.3: what a level's table does to Bottom, for each level of the compaction: only those behind the next one count.
func TestBottomLevels(t *testing.T) {
	for level := range 3 {
		for below := range 4 {
			v := versionOf()
			v.Levels[below] = list(table(5, "c", "e"))
			for _, c := range []api.Compact{compact(level, list(table(1, "a", "c")), nil), compact(level, nil, list(table(1, "e", "f"))), compact(level, list(table(1, "d", "d")), nil), compact(level, list(table(1, "a", "a")), list(table(2, "f", "f")))} {
				isBottom(t, fmt.Sprint("a table on level ", below), v, c, below < level+2, api.OK)
			}
			for _, c := range []api.Compact{compact(level, list(table(1, "a", "b\xff")), nil), compact(level, nil, list(table(1, "e\x00", "f"))), compact(level, list(table(1, "a", "a")), list(table(2, "b", "b")))} {
				isBottom(t, fmt.Sprint("a table on level ", below, " that doesn't overlap"), v, c, true, api.OK)
			}
			isBottom(t, fmt.Sprint("a table on level ", below, " and an empty compaction"), v, api.Compact{Level: level}, true, api.OK)
			isBottom(t, fmt.Sprint("a table on level ", below, " and empty lists"), v, compact(level, []api.Meta{}, []api.Meta{}), true, api.OK)
		}
	}
}

// P16.3: all positions of the span of In and Over against a table far below, also among others.
func TestBottomSpan(t *testing.T) {
	keys := []string{"a", "b", "c", "c\x00", "d", "e", "f", "g", "h"}
	for _, below := range [][]api.Meta{list(table(5, "c", "e")), list(table(5, "\x00", "\x00"), table(6, "c", "e"), table(7, "x", "z"))} {
		for _, deep := range []int{2, 3} {
			v := versionOf()
			v.Levels[deep] = below
			for i, a := range keys {
				for _, b := range keys[i:] {
					for j, c := range keys {
						for _, d := range keys[j:] {
							first, last := min(a, c), max(b, d)
							want := last < "c" || first > "e"
							isBottom(t, "In and Over", v, compact(0, list(table(1, a, b)), list(table(2, c, d))), want, api.OK)
							isBottom(t, "In alone", v, compact(0, list(table(1, a, b), table(2, c, d)), nil), want, api.OK)
							isBottom(t, "Over alone", v, compact(0, nil, list(table(1, a, b), table(2, c, d))), want, api.OK)
						}
					}
				}
			}
		}
	}
}

// P16.3: the tables of the compaction need be neither valid nor tables of the version.
func TestBottomOfAnyTables(t *testing.T) {
	v := versionOf(nil, nil, list(table(1, "c", "e")), list(table(2, "a", "b"), table(3, "x", "z")))
	keys := []string{"", "\x00", "a", "bb", "c", "d", "f", "w", "y", "zz"}
	for _, a := range keys {
		for _, b := range keys {
			for level := range 3 {
				one, two := api.Meta{First: a, Last: b}, api.Meta{First: b, Last: a}
				for _, c := range []api.Compact{compact(level, list(one), nil), compact(level, nil, list(one)), compact(level, list(one), list(two)), compact(level, list(two, one), list(one))} {
					want, _ := slowBottom(v, c)
					isBottom(t, "any tables", v, c, want, api.OK)
				}
			}
		}
	}
	isBottom(t, "the zero table", v, compact(0, list(api.Meta{}), nil), true, api.OK)
	isBottom(t, "the zero table and another one", v, compact(0, list(api.Meta{}), list(table(9, "a", "a"))), false, api.OK)
	isBottom(t, "a First that is greater than the Last, about all tables", v, compact(0, list(table(9, "zzz", "A")), nil), true, api.OK)
	isBottom(t, "a First that is greater than the Last, within a table", v, compact(0, list(table(9, "d", "cc")), nil), false, api.OK)
}
