package skip_test

import (
	"cmp"
	"iter"
	"math/rand/v2"
	"slices"
	"strings"
	"testing"

	"freshet/api"
	"freshet/skip"
)

// place is the Key and the Seq of a row.
type place struct {
	key string
	seq uint64
}

// at is the place of a row.
func at(r api.Row) place { return place{r.Key, r.Seq} }

// compare tells the order of two places, byte by byte.
func compare(a, b place) int {
	for i := range min(len(a.key), len(b.key)) {
		if a.key[i] != b.key[i] {
			return cmp.Compare(a.key[i], b.key[i])
		}
	}
	if len(a.key) != len(b.key) {
		return cmp.Compare(len(a.key), len(b.key))
	}
	return cmp.Compare(b.seq, a.seq)
}

// high is a row with its height.
type high struct {
	row    api.Row
	height int
}

// slow is a list as the chapter's words have it: the rows in order, with heights from 1 to 12.
type slow struct{ rows []high }

// Put looks at all rows, and sorts them all anew.
func (s *slow) Put(r api.Row, height int) bool {
	for _, x := range s.rows {
		if at(x.row) == at(r) {
			return false
		}
	}
	switch {
	case height < 1:
		height = 1
	case height > 12:
		height = 12
	}
	s.rows = append(s.rows, high{r, height})
	slices.SortFunc(s.rows, func(a, b high) int { return compare(at(a.row), at(b.row)) })
	return true
}

// All has all rows, in order.
func (s *slow) All() []api.Row {
	var l []api.Row
	for _, x := range s.rows {
		l = append(l, x.row)
	}
	return l
}

// From has the rows that aren't before a place.
func (s *slow) From(p place) []api.Row {
	var l []api.Row
	for _, x := range s.rows {
		if compare(at(x.row), p) >= 0 {
			l = append(l, x.row)
		}
	}
	return l
}

// Height is the greatest height.
func (s *slow) Height() int {
	most := 0
	for _, x := range s.rows {
		most = max(most, x.height)
	}
	return most
}

// Steps searches as the chapter says, level by level, each level being the rows that are so high.
func (s *slow) Steps(p place) int {
	steps, upto := 0, -1
	for level := s.Height(); level >= 1; level-- {
		for {
			next := upto + 1
			for next < len(s.rows) && s.rows[next].height < level {
				next++
			}
			if next == len(s.rows) || compare(at(s.rows[next].row), p) >= 0 {
				break
			}
			upto = next
			steps++
		}
	}
	return steps
}

// source returns numbers that look random and are the same in each run.
func source(seed uint64) *rand.Rand { return rand.New(rand.NewPCG(seed, 11)) }

// row is a row of which the value tells the place.
func row(key string, seq uint64) api.Row {
	return api.Row{Key: key, Seq: seq, Kind: 1, Value: "of " + key}
}

// listOf is a list of rows with heights, and the slow one.
func listOf(t *testing.T, l ...high) (*skip.List, *slow) {
	t.Helper()
	list, s := new(skip.List), new(slow)
	for _, x := range l {
		got, want := list.Put(x.row, x.height), s.Put(x.row, x.height)
		if got != want {
			t.Fatalf("Put(%v, %d) = %v, want %v", at(x.row), x.height, got, want)
		}
	}
	return list, s
}

// collect has the rows that an iterator passes on.
func collect(rows iter.Seq[api.Row]) []api.Row {
	var l []api.Row
	for r := range rows {
		l = append(l, r)
	}
	return l
}

// isPlace tests what a list tells of a place.
func isPlace(t *testing.T, what string, l *skip.List, s *slow, p place) {
	t.Helper()
	want := s.From(p)
	if got := collect(l.From(p.key, p.seq)); !slices.Equal(got, want) {
		t.Fatalf("%s: From(%q, %d) has %v, want %v", what, p.key, p.seq, got, want)
	}
	first, found := api.Row{}, false
	if len(want) > 0 {
		first, found = want[0], true
	}
	if got, ok := l.Seek(p.key, p.seq); got != first || ok != found {
		t.Fatalf("%s: Seek(%q, %d) = %v, %v, want %v, %v", what, p.key, p.seq, got, ok, first, found)
	}
	if got, want := l.Steps(p.key, p.seq), s.Steps(p); got != want {
		t.Fatalf("%s: Steps(%q, %d) = %d, want %d", what, p.key, p.seq, got, want)
	}
}

// isList tests what a list tells of its rows, of their places and of other ones.
func isList(t *testing.T, what string, l *skip.List, s *slow, others ...place) {
	t.Helper()
	want := s.All()
	if got := collect(l.All()); !slices.Equal(got, want) {
		t.Fatalf("%s: All has %v, want %v", what, got, want)
	}
	if l.Len() != len(want) || l.Height() != s.Height() {
		t.Fatalf("%s: Len = %d, Height = %d, want %d, %d", what, l.Len(), l.Height(), len(want), s.Height())
	}
	for _, r := range want {
		isPlace(t, what, l, s, at(r))
	}
	for _, p := range others {
		isPlace(t, what, l, s, p)
	}
}

// beside has the places just before and behind each of these, and edges.
func beside(l ...place) []place {
	out := []place{{"", 0}, {"", 1<<64 - 1}, {strings.Repeat("\xff", 600), 0}}
	for _, p := range l {
		out = append(out, p, place{p.key, p.seq + 1}, place{p.key, p.seq - 1}, place{p.key, 0}, place{p.key, 1<<64 - 1}, place{p.key + "\x00", p.seq}, place{p.key + "\x00", 1<<64 - 1})
		if p.key != "" {
			out = append(out, place{p.key[:len(p.key)-1], p.seq}, place{p.key[:len(p.key)-1], 0})
		}
	}
	return out
}
