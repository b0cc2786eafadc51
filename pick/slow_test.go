package pick_test

import (
	"fmt"
	"math"
	"math/rand/v2"
	"slices"
	"sort"
	"strings"
	"testing"

	"freshet/api"
	"freshet/edit"
	"freshet/pick"
)

// The limits of the chapter, as numbers of the test's own.
const (
	mostNumber = 99999998
	mostNext   = 99999999
	mostSeq    = 1<<56 - 1
	mostSize   = 1 << 18
)

// slowCheck goes over what is said of the options.
func slowCheck(o api.PickOptions) api.Errno {
	is := []bool{1 <= o.Many, o.Many <= 64, 1 <= o.Base, o.Base <= 1073741824, 1 <= o.Times, o.Times <= 1000}
	if slices.Contains(is, false) {
		return api.ErrArg
	}
	return api.OK
}

// slowOverlap is the chapter's sentence, word by word.
func slowOverlap(a, b api.Meta) bool {
	neither := !(strings.Compare(a.Last, b.First) == -1) && !(strings.Compare(b.Last, a.First) == -1)
	return neither
}

// slowSpan sorts the keys of tables, and tells the first and the last of them.
func slowSpan(tables ...api.Meta) (first, last string) {
	var firsts, lasts []string
	for _, m := range tables {
		firsts, lasts = append(firsts, m.First), append(lasts, m.Last)
	}
	sort.Strings(firsts)
	sort.Strings(lasts)
	return firsts[0], lasts[len(lasts)-1]
}

// slowOver are the tables of l that overlap the span of those.
func slowOver(l, tables []api.Meta) []api.Meta {
	first, last := slowSpan(tables...)
	var over []api.Meta
	for _, m := range l {
		if slowOverlap(m, api.Meta{First: first, Last: last}) {
			over = append(over, m)
		}
	}
	return over
}

// slowPick looks at each level by the chapter's list, the lowest one last.
func slowPick(v api.Version, o api.PickOptions) (api.Compact, api.Errno) {
	if !edit.Right(v) || slowCheck(o) != api.OK {
		return api.Compact{}, api.ErrArg
	}
	c, failure := api.Compact{}, api.ErrNone
	for _, level := range []int{2, 1, 0} {
		in := slices.Clone(v.Levels[level])
		size := 0
		for _, m := range in {
			size += m.Size
		}
		isDue := len(in) >= o.Many
		switch level {
		case 1:
			isDue = size > o.Base
		case 2:
			isDue = size > o.Base*o.Times
		}
		if !isDue {
			continue
		}
		if level > 0 {
			sort.Slice(in, func(i, j int) bool { return in[i].Number < in[j].Number })
			in = in[:1]
		}
		c, failure = api.Compact{Level: level, In: in, Over: slowOver(v.Levels[level+1], in)}, api.OK
	}
	return c, failure
}

// slowBottom looks at each table that lies far enough below.
func slowBottom(v api.Version, c api.Compact) (bool, api.Errno) {
	if !edit.Right(v) || c.Level != 0 && c.Level != 1 && c.Level != 2 {
		return false, api.ErrArg
	}
	tables := append(slices.Clone(c.In), c.Over...)
	if len(tables) == 0 {
		return true, api.OK
	}
	var below []api.Meta
	for level := c.Level + 2; level <= 3; level++ {
		below = append(below, v.Levels[level]...)
	}
	return len(slowOver(below, tables)) == 0, api.OK
}

// slowEdit goes over the cases of the chapter one by one.
func slowEdit(v api.Version, c api.Compact, out []api.Meta) (api.Edit, api.Errno) {
	if !edit.Right(v) || c.Level != 0 && c.Level != 1 && c.Level != 2 {
		return api.Edit{}, api.ErrArg
	}
	if slowIsState(v, c, out) {
		return api.Edit{}, api.ErrState
	}
	var e api.Edit
	for _, m := range c.In {
		e.Gone = append(e.Gone, api.Gone{Level: c.Level, Number: m.Number})
	}
	for _, m := range c.Over {
		e.Gone = append(e.Gone, api.Gone{Level: c.Level + 1, Number: m.Number})
	}
	most := uint64(0)
	for _, m := range out {
		e.Added = append(e.Added, api.Placed{Level: c.Level + 1, Table: m})
		if m.Number > most {
			most = m.Number
		}
	}
	if len(out) > 0 && most+1 > v.Next {
		e.Next = most + 1
	}
	return e, api.OK
}

// slowIsState reports whether one of the cases of ErrState is there.
func slowIsState(v api.Version, c api.Compact, out []api.Meta) bool {
	is := func(m api.Meta, l []api.Meta) bool {
		return slices.ContainsFunc(l, func(n api.Meta) bool {
			return m.Number == n.Number && m.Size == n.Size && m.Rows == n.Rows && m.First == n.First && m.Last == n.Last && m.Least == n.Least && m.Greatest == n.Greatest
		})
	}
	for _, m := range c.In {
		if !is(m, v.Levels[c.Level]) {
			return true
		}
	}
	for _, m := range c.Over {
		if !is(m, v.Levels[c.Level+1]) {
			return true
		}
	}
	all := append(slices.Clone(c.In), c.Over...)
	for i, m := range all {
		for _, n := range all[i+1:] {
			if m.Number == n.Number {
				return true
			}
		}
	}
	for _, m := range out {
		if m.Number == 0 || m.Number > 99999998 || len(all) == 0 {
			return true
		}
		first, last := slowSpan(all...)
		if strings.Compare(m.First, first) < 0 || strings.Compare(m.Last, last) > 0 {
			return true
		}
	}
	return false
}

// source returns numbers that look random and are the same in each run.
func source(seed uint64) *rand.Rand { return rand.New(rand.NewPCG(seed, 16)) }

// table is a table with valid metadata.
func table(number uint64, first, last string) api.Meta {
	return api.Meta{Number: number, Size: 100, Rows: 3, First: first, Last: last, Least: 1, Greatest: 2}
}

// sized is a table with that Size.
func sized(number uint64, size int, first, last string) api.Meta {
	m := table(number, first, last)
	m.Size = size
	return m
}

// versionOf has these tables, as they stand, and numbers that are far above theirs.
func versionOf(levels ...[]api.Meta) api.Version {
	v := api.Version{Log: 7, Next: 1000, Seq: 5000}
	copy(v.Levels[:], levels)
	return v
}

// list is a list of tables.
func list(l ...api.Meta) []api.Meta { return l }

// compact is a compaction.
func compact(level int, in, over []api.Meta) api.Compact {
	return api.Compact{Level: level, In: in, Over: over}
}

// four has tables on each level; on those behind level 0 the lowest Number isn't the first one.
func four() api.Version {
	return versionOf(
		list(table(11, "a", "d"), table(14, "c", "e"), table(17, "a", "c")),
		list(table(13, "a", "c"), table(12, "ca", "d"), table(18, "m", "p")),
		list(table(9, "b", "bb"), table(8, "d", "da"), table(10, "x", "z")),
		list(table(5, "\x00", "a"), table(3, "b", "k"), table(4, "l", "\xff")))
}

// manyTables returns n tables in order, with the Numbers from first on and keys that do not overlap.
func manyTables(n int, first uint64) []api.Meta {
	var l []api.Meta
	for i := range n {
		l = append(l, table(first+uint64(i), fmt.Sprintf("%06d", i), fmt.Sprintf("%06d+", i)))
	}
	return l
}

// badVersions are some that are not valid, each for a reason of its own, though tables of theirs would be picked.
func badVersions() []api.Version {
	l := []api.Version{{}}
	change := func(by func(v *api.Version)) {
		v := four()
		by(&v)
		l = append(l, v)
	}
	change(func(v *api.Version) { v.Log = 0 })
	change(func(v *api.Version) { v.Log = mostNext + 1 })
	change(func(v *api.Version) { v.Next = 0 })
	change(func(v *api.Version) { v.Next = 18 })
	change(func(v *api.Version) { v.Next = mostNext + 1 })
	change(func(v *api.Version) { v.Seq = 1 })
	change(func(v *api.Version) { v.Seq = 1 << 56 })
	for i := range 4 {
		change(func(v *api.Version) { v.Levels[i] = append(v.Levels[i], table(77, "a", "b"), table(76, "a", "b")) })
		change(func(v *api.Version) { v.Levels[i] = manyTables(65, 100) })
		change(func(v *api.Version) { v.Levels[i][2].Number = 5000 })
		change(func(v *api.Version) { v.Levels[i][2].Number = v.Levels[(i+1)%4][0].Number })
		change(func(v *api.Version) { v.Levels[i][1].Size = 0 })
		change(func(v *api.Version) { v.Levels[i][1].Last = "" })
	}
	return l
}

// edges are numbers about each power of 2, also below 0, and about these.
func edges(at ...int) []int {
	l := []int{0, math.MaxInt, math.MinInt, math.MinInt + 1}
	for i := range 62 {
		at = append(at, 1<<i)
	}
	for _, n := range at {
		l = append(l, n-1, n, n+1, -n)
	}
	slices.Sort(l)
	return slices.Compact(l)
}

// noLevels are numbers of which no compaction can be the level.
var noLevels = []int{-1, -2, -3, -4, 3, 4, 5, 64, 255, 256, 257, 1 << 32, 1<<32 + 1, 1 << 62, math.MaxInt - 1, math.MaxInt, math.MinInt, math.MinInt + 1}

// sameCompact and sameEdit report whether two are equal; a nil list and an empty one are.
func sameCompact(a, b api.Compact) bool {
	return a.Level == b.Level && slices.Equal(a.In, b.In) && slices.Equal(a.Over, b.Over)
}

func sameEdit(a, b api.Edit) bool {
	return a.Log == b.Log && a.Next == b.Next && a.Seq == b.Seq && slices.Equal(a.Gone, b.Gone) && slices.Equal(a.Added, b.Added)
}

// told, toldVersion, toldCompact and toldEdit tell of tables and what has them, but not too much.
func told(l []api.Meta) string {
	s := "["
	for i, m := range l {
		if i == 8 {
			return s + " ..]"
		}
		s += fmt.Sprintf(" %d:%d,%d,%q-%q,%d-%d", m.Number, m.Size, m.Rows, brief(m.First), brief(m.Last), m.Least, m.Greatest)
	}
	return s + "]"
}

func toldVersion(v api.Version) string {
	return fmt.Sprintf("(log %d next %d seq %d %s %s %s %s)", v.Log, v.Next, v.Seq, told(v.Levels[0]), told(v.Levels[1]), told(v.Levels[2]), told(v.Levels[3]))
}

func toldCompact(c api.Compact) string {
	return fmt.Sprintf("(level %d in %s over %s)", c.Level, told(c.In), told(c.Over))
}

func toldEdit(e api.Edit) string {
	var tables []api.Meta
	var levels []int
	for _, p := range e.Added {
		tables, levels = append(tables, p.Table), append(levels, p.Level)
	}
	return fmt.Sprintf("(log %d next %d seq %d gone %v levels %v %s)", e.Log, e.Next, e.Seq, e.Gone[:min(len(e.Gone), 9)], levels[:min(len(levels), 9)], told(tables))
}

func brief(s string) string { return s[:min(len(s), 40)] }

// isPicked tests that Pick answers what is wanted, and nothing beside an error.
func isPicked(t *testing.T, what string, v api.Version, o api.PickOptions, want api.Compact, wantE api.Errno) {
	t.Helper()
	if got, failure := pick.Pick(v, o); !sameCompact(got, want) || failure != wantE {
		t.Errorf("%s: Pick of %s, %v: %s, %v, want %s, %v", what, toldVersion(v), o, toldCompact(got), failure, toldCompact(want), wantE)
	}
	if got, failure := slowPick(v, o); !sameCompact(got, want) || failure != wantE {
		t.Errorf("%s: the test's own Pick of %s, %v: %s, %v, want %s, %v", what, toldVersion(v), o, toldCompact(got), failure, toldCompact(want), wantE)
	}
}

// isNotPicked tests that Pick tells that error.
func isNotPicked(t *testing.T, what string, v api.Version, o api.PickOptions, want api.Errno) {
	t.Helper()
	isPicked(t, what, v, o, api.Compact{}, want)
}

// isBottom tests that Bottom answers what is wanted.
func isBottom(t *testing.T, what string, v api.Version, c api.Compact, want bool, wantE api.Errno) {
	t.Helper()
	if got, failure := pick.Bottom(v, c); got != want || failure != wantE {
		t.Errorf("%s: Bottom of %s, %s: %v, %v, want %v, %v", what, toldVersion(v), toldCompact(c), got, failure, want, wantE)
	}
	if got, failure := slowBottom(v, c); got != want || failure != wantE {
		t.Errorf("%s: the test's own Bottom of %s, %s: %v, %v, want %v, %v", what, toldVersion(v), toldCompact(c), got, failure, want, wantE)
	}
}

// isEdit tests that Edit answers what is wanted, and nothing beside an error.
func isEdit(t *testing.T, what string, v api.Version, c api.Compact, out []api.Meta, want api.Edit, wantE api.Errno) {
	t.Helper()
	if got, failure := pick.Edit(v, c, out); !sameEdit(got, want) || failure != wantE {
		t.Errorf("%s: Edit of %s, %s, %s: %s, %v, want %s, %v", what, toldVersion(v), toldCompact(c), told(out), toldEdit(got), failure, toldEdit(want), wantE)
	}
	if got, failure := slowEdit(v, c, out); !sameEdit(got, want) || failure != wantE {
		t.Errorf("%s: the test's own Edit of %s, %s, %s: %s, %v, want %s, %v", what, toldVersion(v), toldCompact(c), told(out), toldEdit(got), failure, toldEdit(want), wantE)
	}
}

// isNoEdit tests that Edit tells that error.
func isNoEdit(t *testing.T, what string, v api.Version, c api.Compact, out []api.Meta, want api.Errno) {
	t.Helper()
	isEdit(t, what, v, c, out, api.Edit{}, want)
}
