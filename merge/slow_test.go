package merge_test

import (
	"cmp"
	"fmt"
	"math"
	"math/rand/v2"
	"slices"
	"strings"
	"testing"

	"freshet/api"
	"freshet/merge"
)

// most is the maximum number.
const most = math.MaxUint64

// compare tells the order of two places: by their keys and, from the greatest on, by their numbers.
func compare(a, b api.Row) int {
	return cmp.Or(cmp.Compare(a.Key, b.Key), cmp.Compare(b.Seq, a.Seq))
}

// slowOrder holds each row against each further one.
func slowOrder(l []api.Row) bool {
	for i, a := range l {
		for _, b := range l[i+1:] {
			if compare(a, b) >= 0 {
				return false
			}
		}
	}
	return true
}

// slowMerge takes each row whose place is in no list before, and sorts them in the end.
func slowMerge(l [][]api.Row) ([]api.Row, api.Errno) {
	type place struct {
		key string
		seq uint64
	}
	taken := map[place]bool{}
	var all []api.Row
	for _, rows := range l {
		if !slowOrder(rows) {
			return nil, api.ErrArg
		}
		for _, r := range rows {
			if p := (place{r.Key, r.Seq}); !taken[p] {
				taken[p] = true
				all = append(all, r)
			}
		}
	}
	slices.SortFunc(all, compare)
	return all, api.OK
}

// slowIsVisible looks for another row of the Key that is nearer to the number.
func slowIsVisible(l []api.Row, r api.Row, n uint64) bool {
	isNearer := func(x api.Row) bool { return x.Key == r.Key && x.Seq > r.Seq && x.Seq <= n }
	return r.Seq <= n && !slices.ContainsFunc(l, isNearer)
}

// slowAt takes each put that is visible.
func slowAt(l []api.Row, n uint64) ([]api.Pair, api.Errno) {
	if !slowOrder(l) {
		return nil, api.ErrArg
	}
	var pairs []api.Pair
	for _, r := range l {
		if slowIsVisible(l, r, n) && r.Kind == 1 {
			pairs = append(pairs, api.Pair{Key: r.Key, Value: r.Value})
		}
	}
	return pairs, api.OK
}

// slowDrop removes one row after another, as long as there is one to be removed.
func slowDrop(l []api.Row, marks []uint64, bottom bool) ([]api.Row, api.Errno) {
	if !slowOrder(l) {
		return nil, api.ErrArg
	}
	var left []api.Row
	for _, r := range l {
		isVisible := func(n uint64) bool { return slowIsVisible(l, r, n) }
		if isVisible(most) || slices.ContainsFunc(marks, isVisible) {
			left = append(left, r)
		}
	}
	for i := len(left) - 1; i >= 0 && bottom; i-- {
		if isLast := i == len(left)-1 || left[i+1].Key != left[i].Key; isLast && left[i].Kind != 1 {
			left = slices.Delete(left, i, i+1)
		}
	}
	return left, api.OK
}

// source returns numbers that look random and are the same in each run.
func source(seed uint64) *rand.Rand { return rand.New(rand.NewPCG(seed, 13)) }

// put, del and odd are rows; an odd one has a kind that no row should have.
func put(key string, seq uint64, value string) api.Row {
	return api.Row{Key: key, Seq: seq, Kind: 1, Value: value}
}
func del(key string, seq uint64) api.Row { return api.Row{Key: key, Seq: seq, Kind: 2} }
func odd(key string, seq uint64, kind int, value string) api.Row {
	return api.Row{Key: key, Seq: seq, Kind: kind, Value: value}
}

// lists and pairs are what tests pass and want.
func lists(l ...[]api.Row) [][]api.Row { return l }
func rowsOf(l ...api.Row) []api.Row    { return l }
func pairsOf(keysAndValues ...string) []api.Pair {
	var l []api.Pair
	for i := 0; i < len(keysAndValues); i += 2 {
		l = append(l, api.Pair{Key: keysAndValues[i], Value: keysAndValues[i+1]})
	}
	return l
}

// inOrder returns the rows in order, of each place the first one.
func inOrder(l []api.Row) []api.Row {
	l = slices.Clone(l)
	slices.SortStableFunc(l, compare)
	return slices.CompactFunc(l, func(a, b api.Row) bool { return compare(a, b) == 0 })
}

// someRows returns at most n rows that are in order, of few keys and numbers, so that places are likely to be in two lists; the values tell rows apart.
func someRows(random *rand.Rand, n int) []api.Row {
	keys := []string{"", "a", "aa", "a\x00", "b", "b\xff", "\x00", "\xff", "user-1", "user-11"}
	seqs := []uint64{0, 1, 2, 3, 4, 5, 6, 7, 255, 256, 1 << 55, 1<<56 - 1, 1 << 56, 1 << 63, most - 1, most}
	var l []api.Row
	for range n {
		r := del(keys[random.IntN(len(keys))], seqs[random.IntN(len(seqs))])
		switch random.IntN(8) {
		case 0, 1, 2:
		case 3:
			r.Kind = random.IntN(7) - 3
			r.Value = "odd"
		default:
			r = put(r.Key, r.Seq, fmt.Sprint(random.IntN(1000)))
		}
		l = append(l, r)
	}
	return inOrder(l)
}

// dealt has the rows of one list in n lists, each in one of them.
func dealt(random *rand.Rand, l []api.Row, n int) [][]api.Row {
	out := make([][]api.Row, n)
	for _, r := range l {
		i := random.IntN(n)
		out[i] = append(out[i], r)
	}
	return out
}

// someMarks returns numbers, in any order and also twice, at and next to those of rows.
func someMarks(random *rand.Rand, l []api.Row, n int) []uint64 {
	marks := []uint64{}
	for range n {
		mark := []uint64{0, 1, 4, 100, 1 << 56, most - 1, most}[random.IntN(7)]
		if len(l) > 0 && random.IntN(3) > 0 {
			mark = l[random.IntN(len(l))].Seq + uint64(random.IntN(3)) - 1
		}
		marks = append(marks, mark)
	}
	return marks
}

// numbersOf has the numbers at which the contents of rows can change, and those next to them.
func numbersOf(l []api.Row) []uint64 {
	numbers := []uint64{0, 1, most - 1, most}
	for _, r := range l {
		numbers = append(numbers, r.Seq-1, r.Seq, r.Seq+1)
	}
	slices.Sort(numbers)
	return slices.Compact(numbers)
}

// told tells rows, but not too many, nor long strings.
func told(l []api.Row) string {
	s := fmt.Sprint(len(l), " rows")
	for i, r := range l {
		if i == 12 {
			return s + " .."
		}
		s += fmt.Sprintf(" (%q %d %d %q)", brief(r.Key), r.Seq, r.Kind, brief(r.Value))
	}
	return s
}

func brief(s string) string { return s[:min(len(s), 40)] }

func toldAll(l [][]api.Row) string {
	var s []string
	for i, rows := range l {
		if i == 8 {
			return strings.Join(s, "; ") + " .."
		}
		s = append(s, told(rows))
	}
	return strings.Join(s, "; ")
}

// merged, at and dropped are what the calls return for arguments that may be.
func merged(t *testing.T, l ...[]api.Row) []api.Row {
	t.Helper()
	rows, e := merge.Merge(l)
	if e != api.OK {
		t.Fatalf("Merge of %s: %v", toldAll(l), e)
	}
	return rows
}

func at(t *testing.T, l []api.Row, n uint64) []api.Pair {
	t.Helper()
	pairs, e := merge.At(l, n)
	if e != api.OK {
		t.Fatalf("At of %s, %d: %v", told(l), n, e)
	}
	return pairs
}

func dropped(t *testing.T, l []api.Row, marks []uint64, bottom bool) []api.Row {
	t.Helper()
	rows, e := merge.Drop(l, marks, bottom)
	if e != api.OK {
		t.Fatalf("Drop of %s, %d, %v: %v", told(l), marks, bottom, e)
	}
	return rows
}

// isMerged, isAt and isDropped test that a call returns these.
func isMerged(t *testing.T, l [][]api.Row, want []api.Row) {
	t.Helper()
	if rows, e := merge.Merge(l); !slices.Equal(rows, want) || e != api.OK {
		t.Errorf("Merge of %s: %s, %v, want %s", toldAll(l), told(rows), e, told(want))
	}
	if rows, e := slowMerge(l); !slices.Equal(rows, want) || e != api.OK {
		t.Errorf("the test's own Merge of %s: %s, %v, want %s", toldAll(l), told(rows), e, told(want))
	}
}

func isAt(t *testing.T, l []api.Row, n uint64, want []api.Pair) {
	t.Helper()
	if pairs, e := merge.At(l, n); !slices.Equal(pairs, want) || e != api.OK {
		t.Errorf("At of %s, %d: %q, %v, want %q", told(l), n, pairs, e, want)
	}
	if pairs, e := slowAt(l, n); !slices.Equal(pairs, want) || e != api.OK {
		t.Errorf("the test's own At of %s, %d: %q, %v, want %q", told(l), n, pairs, e, want)
	}
}

func isDropped(t *testing.T, l []api.Row, marks []uint64, bottom bool, want []api.Row) {
	t.Helper()
	if rows, e := merge.Drop(l, marks, bottom); !slices.Equal(rows, want) || e != api.OK {
		t.Errorf("Drop of %s, %d, %v: %s, %v, want %s", told(l), marks, bottom, told(rows), e, told(want))
	}
	if rows, e := slowDrop(l, marks, bottom); !slices.Equal(rows, want) || e != api.OK {
		t.Errorf("the test's own Drop of %s, %d, %v: %s, %v, want %s", told(l), marks, bottom, told(rows), e, told(want))
	}
}

// isSlow tests that the calls answer what the slow ones do: Merge of lists, and At and Drop of what it returns.
func isSlow(t *testing.T, l [][]api.Row, marks ...uint64) {
	t.Helper()
	want, wantE := slowMerge(l)
	if rows, e := merge.Merge(l); !slices.Equal(rows, want) || e != wantE {
		t.Errorf("Merge of %s: %s, %v, want %s, %v", toldAll(l), told(rows), e, told(want), wantE)
	}
	isSlowOfOne(t, want, marks...)
}

// isSlowOfOne tests that At, for all numbers that matter, and Drop answer what the slow ones do for a list.
func isSlowOfOne(t *testing.T, l []api.Row, marks ...uint64) {
	t.Helper()
	for _, n := range numbersOf(l) {
		want, wantE := slowAt(l, n)
		if pairs, e := merge.At(l, n); !slices.Equal(pairs, want) || e != wantE {
			t.Errorf("At of %s, %d: %q, %v, want %q, %v", told(l), n, pairs, e, want, wantE)
		}
	}
	for _, bottom := range []bool{false, true} {
		want, wantE := slowDrop(l, marks, bottom)
		if rows, e := merge.Drop(l, marks, bottom); !slices.Equal(rows, want) || e != wantE {
			t.Errorf("Drop of %s, %d, %v: %s, %v, want %s, %v", told(l), marks, bottom, told(rows), e, told(want), wantE)
		}
	}
}

// isRefused tests that the calls refuse rows that are not in order, alone and among lists that are, and return nothing beside the error.
func isRefused(t *testing.T, what string, l []api.Row) {
	t.Helper()
	good := rowsOf(put("a", 1, "x"), put("q", 7, "y"))
	for _, all := range [][][]api.Row{lists(l), lists(l, good), lists(good, l), lists(good, good, l), lists(good, l, good), lists(nil, l), lists(l, nil), lists(l, l)} {
		if rows, e := merge.Merge(all); len(rows) != 0 || e != api.ErrArg {
			t.Errorf("%s: Merge of %s: %s, %v, want ErrArg", what, toldAll(all), told(rows), e)
		}
	}
	for _, n := range []uint64{0, 1, most} {
		if pairs, e := merge.At(l, n); len(pairs) != 0 || e != api.ErrArg {
			t.Errorf("%s: At of %s, %d: %q, %v, want ErrArg", what, told(l), n, pairs, e)
		}
		for _, bottom := range []bool{false, true} {
			for _, marks := range [][]uint64{nil, {n}, {n, 3, most, 0}} {
				if rows, e := merge.Drop(l, marks, bottom); len(rows) != 0 || e != api.ErrArg {
					t.Errorf("%s: Drop of %s, %d, %v: %s, %v, want ErrArg", what, told(l), marks, bottom, told(rows), e)
				}
			}
		}
	}
	if slowOrder(l) {
		t.Errorf("%s: the test's own order has %s", what, told(l))
	}
}
