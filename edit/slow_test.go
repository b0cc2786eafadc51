package edit_test

import (
	"cmp"
	"encoding/binary"
	"fmt"
	"math/rand/v2"
	"slices"
	"strings"
	"testing"

	"freshet/api"
	"freshet/edit"
)

// The limits of the chapter, as numbers of the test's own.
const (
	mostNumber = 99999998
	mostNext   = 99999999
	mostSeq    = 1<<56 - 1
	mostSize   = 1 << 18
	mostKey    = 520
	mostTables = 64
	mostListed = 256
)

// slowValid goes over what is said of the metadata of a table.
func slowValid(m api.Meta) bool {
	is := []bool{
		1 <= m.Number, m.Number <= mostNumber,
		1 <= m.Size, m.Size <= mostSize,
		1 <= m.Rows, m.Rows <= mostSize,
		1 <= len(m.First), len(m.First) <= mostKey,
		1 <= len(m.Last), len(m.Last) <= mostKey,
		strings.Compare(m.First, m.Last) <= 0,
		1 <= m.Least, m.Least <= m.Greatest, m.Greatest <= mostSeq,
	}
	return !slices.Contains(is, false)
}

// slowRight holds each table against each further one.
func slowRight(v api.Version) bool {
	if v.Log < 1 || v.Log > mostNext || v.Next < 1 || v.Next > mostNext || v.Seq > mostSeq {
		return false
	}
	all := placed(v)
	many := [4]int{}
	for i, p := range all {
		many[p.Level]++
		m := p.Table
		if many[p.Level] > mostTables || !slowValid(m) || m.Number >= v.Next || m.Greatest > v.Seq {
			return false
		}
		for _, q := range all[i+1:] {
			switch {
			case m.Number == q.Table.Number:
				return false
			case p.Level == q.Level && p.Level == 0 && m.Number > q.Table.Number:
				return false
			case p.Level == q.Level && p.Level > 0 && m.Last >= q.Table.First:
				return false
			}
		}
	}
	return true
}

// placed are the tables of a version, level by level.
func placed(v api.Version) []api.Placed {
	var all []api.Placed
	for i, tables := range v.Levels {
		for _, m := range tables {
			all = append(all, api.Placed{Level: i, Table: m})
		}
	}
	return all
}

// isLevel and isLower are what slowApply asks of levels and of numbers.
func isLevel(i int) bool          { return i == 0 || i == 1 || i == 2 || i == 3 }
func isLower(edit, v uint64) bool { return edit > 0 && edit < v }

// slowListed goes over the levels and the tables of an edit.
func slowListed(e api.Edit) bool {
	isOff := func(g api.Gone) bool { return !isLevel(g.Level) }
	isBad := func(p api.Placed) bool { return !isLevel(p.Level) || !slowValid(p.Table) }
	return !slices.ContainsFunc(e.Gone, isOff) && !slices.ContainsFunc(e.Added, isBad)
}

// slowApply does the four steps of the chapter one after another on a list of placed tables.
func slowApply(v api.Version, e api.Edit) (api.Version, api.Errno) {
	if !slowRight(v) || isLower(e.Log, v.Log) || isLower(e.Next, v.Next) || isLower(e.Seq, v.Seq) || !slowListed(e) {
		return api.Version{}, api.ErrArg
	}
	all := placed(v)
	for _, g := range e.Gone {
		i := slices.IndexFunc(all, func(p api.Placed) bool { return p.Level == g.Level && p.Table.Number == g.Number })
		if i < 0 {
			return api.Version{}, api.ErrNone
		}
		all = slices.Delete(all, i, i+1)
	}
	for _, p := range e.Added {
		if slices.ContainsFunc(all, func(q api.Placed) bool { return q.Table.Number == p.Table.Number }) {
			return api.Version{}, api.ErrThere
		}
		all = append(all, p)
	}
	after := api.Version{Log: max(v.Log, e.Log), Next: max(v.Next, e.Next), Seq: max(v.Seq, e.Seq)}
	slices.SortStableFunc(all, func(p, q api.Placed) int {
		switch {
		case p.Level != q.Level:
			return p.Level - q.Level
		case p.Level == 0:
			return cmp.Compare(p.Table.Number, q.Table.Number)
		}
		return strings.Compare(p.Table.First, q.Table.First)
	})
	for _, p := range all {
		after.Levels[p.Level] = append(after.Levels[p.Level], p.Table)
	}
	if !slowRight(after) {
		return api.Version{}, api.ErrState
	}
	return after, api.OK
}

// slowEncode puts one number or key behind another.
func slowEncode(e api.Edit) (string, api.Errno) {
	switch {
	case !slowListed(e):
		return "", api.ErrArg
	case len(e.Gone) > mostListed || len(e.Added) > mostListed:
		return "", api.ErrLong
	}
	return slowBytes(e), api.OK
}

// slowBytes is the encoding of an edit that need not be one that Encode accepts.
func slowBytes(e api.Edit) string {
	var b []byte
	put := func(x any) {
		switch x := x.(type) {
		case uint64:
			b = binary.AppendUvarint(b, x)
		case int:
			b = binary.AppendUvarint(b, uint64(x))
		case string:
			b = append(binary.AppendUvarint(b, uint64(len(x))), x...)
		}
	}
	for _, x := range []any{e.Log, e.Next, e.Seq, len(e.Gone)} {
		put(x)
	}
	for _, g := range e.Gone {
		put(g.Level)
		put(g.Number)
	}
	put(len(e.Added))
	for _, p := range e.Added {
		m := p.Table
		for _, x := range []any{p.Level, m.Number, m.Size, m.Rows, m.First, m.Last, m.Least, m.Greatest} {
			put(x)
		}
	}
	return string(b)
}

// slowDecode reads what may be an encoding, whatever is read, and looks whether its encoding is what was read.
func slowDecode(s string) (api.Edit, api.Errno) {
	rest := []byte(s)
	number := func() uint64 {
		n, size := binary.Uvarint(rest)
		if size <= 0 {
			size = len(rest)
		}
		rest = rest[size:]
		return n
	}
	text := func() string {
		n := min(number(), uint64(len(rest)))
		t := string(rest[:n])
		rest = rest[n:]
		return t
	}
	e := api.Edit{Log: number(), Next: number(), Seq: number()}
	for n := number(); n > 0 && len(rest) > 0; n-- {
		e.Gone = append(e.Gone, api.Gone{Level: int(number()), Number: number()})
	}
	for n := number(); n > 0 && len(rest) > 0; n-- {
		p := api.Placed{Level: int(number())}
		p.Table = api.Meta{Number: number(), Size: int(number()), Rows: int(number()), First: text(), Last: text(), Least: number(), Greatest: number()}
		e.Added = append(e.Added, p)
	}
	if again, failure := slowEncode(e); failure != api.OK || again != s {
		return api.Edit{}, api.ErrForm
	}
	return e, api.OK
}

// source returns numbers that look random and are the same in each run.
func source(seed uint64) *rand.Rand { return rand.New(rand.NewPCG(seed, 14)) }

// table is a table with valid metadata.
func table(number uint64, first, last string) api.Meta {
	return api.Meta{Number: number, Size: 100, Rows: 3, First: first, Last: last, Least: 1, Greatest: 2}
}

// at is a table at a level, from is one that goes from a level.
func at(level int, m api.Meta) api.Placed    { return api.Placed{Level: level, Table: m} }
func from(level int, number uint64) api.Gone { return api.Gone{Level: level, Number: number} }
func adds(added ...api.Placed) api.Edit      { return api.Edit{Added: added} }
func goes(gone ...api.Gone) api.Edit         { return api.Edit{Gone: gone} }
func both(gone api.Gone, to api.Placed) api.Edit {
	return api.Edit{Gone: []api.Gone{gone}, Added: []api.Placed{to}}
}
func next(n uint64, added ...api.Placed) api.Edit { return api.Edit{Next: n, Added: added} }

// versionOf has these tables, as they stand, and numbers that are far above theirs.
func versionOf(tables ...api.Placed) api.Version {
	v := api.Version{Log: 7, Next: 1000, Seq: 5000}
	for _, p := range tables {
		v.Levels[p.Level] = append(v.Levels[p.Level], p.Table)
	}
	return v
}

// four has tables on each level.
func four() api.Version {
	return versionOf(
		at(0, table(11, "a", "z")), at(0, table(14, "c", "d")), at(0, table(17, "a", "c")),
		at(1, table(13, "a", "c")), at(1, table(12, "ca", "d")),
		at(2, table(9, "b", "bb")),
		at(3, table(5, "\x00", "a")), at(3, table(3, "b", "k")), at(3, table(4, "l", "\xff")))
}

// manyTables returns n tables in order, with the Numbers from first on and keys that do not overlap.
func manyTables(n int, first uint64) []api.Meta {
	var l []api.Meta
	for i := range n {
		l = append(l, table(first+uint64(i), fmt.Sprintf("%06d", i), fmt.Sprintf("%06d+", i)))
	}
	return l
}

// fill returns n bytes.
func fill(n int, b byte) string { return strings.Repeat(string([]byte{b}), n) }

// numbersBy returns numbers at each edge, about each power of 2, and about these.
func numbersBy(edges ...uint64) []uint64 {
	l := []uint64{0}
	for i := range 64 {
		edges = append(edges, 1<<i)
	}
	for _, n := range edges {
		l = append(l, n-1, n, n+1)
	}
	slices.Sort(l)
	return slices.Compact(l)
}

// sameEdit reports whether two edits are equal; a nil list and an empty one are.
func sameEdit(a, b api.Edit) bool {
	return a.Log == b.Log && a.Next == b.Next && a.Seq == b.Seq && slices.Equal(a.Gone, b.Gone) && slices.Equal(a.Added, b.Added)
}

// sameVersion is Same by what is told of versions.
func sameVersion(a, b api.Version) bool {
	return a.Log == b.Log && a.Next == b.Next && a.Seq == b.Seq && slices.Equal(placed(a), placed(b))
}

// told and toldEdit tell a version and an edit, but not too much of them.
func told(v api.Version) string {
	return fmt.Sprintf("(log %d next %d seq %d%s)", v.Log, v.Next, v.Seq, toldTables(placed(v)))
}

func toldEdit(e api.Edit) string {
	s := fmt.Sprintf("(log %d next %d seq %d", e.Log, e.Next, e.Seq)
	for i, g := range e.Gone {
		if i == 6 {
			s += " .."
			break
		}
		s += fmt.Sprintf(" -%d/%d", g.Level, g.Number)
	}
	return s + toldTables(e.Added) + ")"
}

func toldTables(l []api.Placed) string {
	s := fmt.Sprintf(" %d tables", len(l))
	for i, p := range l {
		if i == 6 {
			return s + " .."
		}
		m := p.Table
		s += fmt.Sprintf(" %d/%d:%d,%d,%q-%q,%d-%d", p.Level, m.Number, m.Size, m.Rows, brief(m.First), brief(m.Last), m.Least, m.Greatest)
	}
	return s
}

func brief(s string) string { return s[:min(len(s), 40)] }

// isRight tests that Right answers what is wanted, and that calls which ask it do.
func isRight(t *testing.T, what string, v api.Version, want bool) {
	t.Helper()
	if got := edit.Right(v); got != want {
		t.Errorf("%s: Right of %s: %v", what, told(v), got)
	}
	if got := slowRight(v); got != want {
		t.Errorf("%s: the test's own Right of %s: %v", what, told(v), got)
	}
	whole, after := api.Edit{}, api.Version{}
	failure := api.ErrArg
	if want {
		whole = api.Edit{Log: v.Log, Next: v.Next, Seq: v.Seq, Added: placed(v)}
		after, failure = v, api.OK
	}
	if got := edit.Whole(v); !sameEdit(got, whole) {
		t.Errorf("%s: Whole of %s: %s", what, told(v), toldEdit(got))
	}
	isApplied(t, what, v, api.Edit{}, after, failure)
}

// isApplied tests that Apply answers what is wanted, and nothing beside an error.
func isApplied(t *testing.T, what string, v api.Version, e api.Edit, want api.Version, wantE api.Errno) {
	t.Helper()
	if got, failure := edit.Apply(v, e); !sameVersion(got, want) || failure != wantE {
		t.Errorf("%s: Apply of %s, %s: %s, %v, want %s, %v", what, told(v), toldEdit(e), told(got), failure, told(want), wantE)
	}
	if got, failure := slowApply(v, e); !sameVersion(got, want) || failure != wantE {
		t.Errorf("%s: the test's own Apply of %s, %s: %s, %v, want %s, %v", what, told(v), toldEdit(e), told(got), failure, told(want), wantE)
	}
}

// isRefused tests that Apply tells that error.
func isRefused(t *testing.T, what string, v api.Version, e api.Edit, want api.Errno) {
	t.Helper()
	isApplied(t, what, v, e, api.Version{}, want)
}

// isSlowApply tests that Apply answers what slowApply does.
func isSlowApply(t *testing.T, v api.Version, e api.Edit) (api.Version, api.Errno) {
	t.Helper()
	want, wantE := slowApply(v, e)
	got, failure := edit.Apply(v, e)
	if !sameVersion(got, want) || failure != wantE {
		t.Errorf("Apply of %s, %s: %s, %v, want %s, %v", told(v), toldEdit(e), told(got), failure, told(want), wantE)
	}
	return got, failure
}

// isEncoded tests that Encode answers what is wanted, and that Decode of what it answers is the edit.
func isEncoded(t *testing.T, what string, e api.Edit, want string, wantE api.Errno) {
	t.Helper()
	if got, failure := edit.Encode(e); got != want || failure != wantE {
		t.Errorf("%s: Encode of %s: % x, %v, want % x, %v", what, toldEdit(e), brief(got), failure, brief(want), wantE)
	}
	if got, failure := slowEncode(e); got != want || failure != wantE {
		t.Errorf("%s: the test's own Encode of %s: % x, %v, want % x, %v", what, toldEdit(e), brief(got), failure, brief(want), wantE)
	}
	if wantE != api.OK {
		// What would be its encoding is none.
		isNoEdit(t, what, slowBytes(e))
		return
	}
	if got, failure := edit.Decode(want); !sameEdit(got, e) || failure != api.OK {
		t.Errorf("%s: Decode of % x: %s, %v, want %s", what, brief(want), toldEdit(got), failure, toldEdit(e))
	}
}

// isNoEdit tests that Decode refuses a string.
func isNoEdit(t *testing.T, what, s string) {
	t.Helper()
	if e, failure := edit.Decode(s); !sameEdit(e, api.Edit{}) || failure != api.ErrForm {
		t.Errorf("%s: Decode of % x: %s, %v, want ErrForm", what, brief(s), toldEdit(e), failure)
	}
	if e, failure := slowDecode(s); !sameEdit(e, api.Edit{}) || failure != api.ErrForm {
		t.Errorf("%s: the test's own Decode of % x: %s, %v, want ErrForm", what, brief(s), toldEdit(e), failure)
	}
}

// isSlowDecode tests that Decode answers what slowDecode does.
func isSlowDecode(t *testing.T, s string) api.Errno {
	t.Helper()
	want, wantE := slowDecode(s)
	got, failure := edit.Decode(s)
	if !sameEdit(got, want) || failure != wantE {
		t.Errorf("Decode of % x: %s, %v, want %s, %v", s[:min(len(s), 400)], toldEdit(got), failure, toldEdit(want), wantE)
	}
	return failure
}
