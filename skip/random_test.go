package skip_test

import (
	"fmt"
	"math"
	"math/rand/v2"
	"slices"
	"testing"

	"freshet/api"
	"freshet/skip"
)

// some returns rows with any heights, of places some of which are the same.
func some(random *rand.Rand, many int) []high {
	alphabet := []string{"", "a", "aa", "ab", "a\x00", "b", "b\xff", "\x00", "\xff", "c", "cc", "some longer key"}
	seqs := []uint64{0, 1, 2, 3, 4, 5, 6, 1 << 56, math.MaxUint64, random.Uint64()}
	l := make([]high, many)
	for i := range l {
		key := alphabet[random.IntN(len(alphabet))] + alphabet[random.IntN(len(alphabet))]
		r := api.Row{Key: key, Seq: seqs[random.IntN(len(seqs))], Kind: 1 + random.IntN(2)}
		if r.Kind == 1 {
			r.Value = fmt.Sprint("value ", i)
		}
		l[i] = high{r, 1}
		for l[i].height < 13 && random.IntN(3) == 0 {
			l[i].height++
		}
		if random.IntN(8) == 0 {
			l[i].height = random.IntN(30) - 8
		}
	}
	return l
}

// P8.1 to P8.3, P8.6: random rows, held against what the chapter says of them.
func TestHeldAgainstSlow(t *testing.T) {
	for seed := range uint64(400) {
		random := source(seed)
		all := some(random, random.IntN(90))
		l, s := listOf(t, all...)
		var others []place
		for _, x := range some(random, 30) {
			others = append(others, at(x.row))
		}
		isList(t, fmt.Sprint("seed ", seed), l, s, beside(others...)...)
	}
}

// P8.1 to P8.3: all lists of up to four rows, in all orders of inserting, with all heights up to 3.
func TestAllShortLists(t *testing.T) {
	places := []place{{"a", 2}, {"a", 1}, {"b", 2}, {"b", 1}}
	others := []place{{"", 0}, {"a", 3}, {"a", 0}, {"b", 3}, {"b", 0}, {"c", 1}}
	var try func(all []high)
	try = func(all []high) {
		l, s := listOf(t, all...)
		isList(t, fmt.Sprint(all), l, s, others...)
		for _, p := range places {
			if slices.ContainsFunc(all, func(x high) bool { return at(x.row) == p }) {
				continue
			}
			for height := 1; height <= 3; height++ {
				try(append(slices.Clip(all), high{row(p.key, p.seq), height}))
			}
		}
	}
	try(nil)
}

// firsts has, for each place, the row that comes first.
func firsts(all []high) []high {
	seen := map[place]bool{}
	var l []high
	for _, x := range all {
		if !seen[at(x.row)] {
			seen[at(x.row)] = true
			l = append(l, x)
		}
	}
	return l
}

// P8.4: All has the same rows whatever the heights, and in whatever order the rows are inserted, if the same row of each place comes first.
func TestAnyOrderAnyHeights(t *testing.T) {
	for seed := range uint64(60) {
		random := source(seed)
		all := some(random, 60)
		one, _ := listOf(t, all...)
		want := collect(one.All())
		unique := firsts(all)
		for range 12 {
			random.Shuffle(len(unique), func(i, j int) { unique[i], unique[j] = unique[j], unique[i] })
			l := new(skip.List)
			for _, x := range unique {
				if !l.Put(x.row, random.IntN(16)-2) {
					t.Fatalf("seed %d: Put(%v) = false", seed, at(x.row))
				}
			}
			// The others of a place come when it is taken.
			for _, x := range all {
				x.row.Value += " later"
				if l.Put(x.row, random.IntN(16)-2) {
					t.Fatalf("seed %d: Put(%v) again = true", seed, at(x.row))
				}
			}
			if got := collect(l.All()); !slices.Equal(got, want) || l.Len() != len(want) {
				t.Fatalf("seed %d: All has %v, want %v", seed, got, want)
			}
		}
	}
}

// P8.4: the row that comes first is the one that stays, in one order or the other.
func TestFirstOfPlaceStays(t *testing.T) {
	a, b := api.Row{Key: "k", Seq: 1, Kind: 1, Value: "x"}, api.Row{Key: "k", Seq: 1, Kind: 2}
	for height := range 14 {
		for _, x := range [][2]api.Row{{a, b}, {b, a}} {
			l, s := listOf(t, high{x[0], 2}, high{x[1], height})
			isList(t, "two rows of a place", l, s)
			if r, ok := l.Seek("k", 1); r != x[0] || !ok || l.Len() != 1 || l.Height() != 2 {
				t.Errorf("Seek = %v, %v, Len = %d, Height = %d", r, ok, l.Len(), l.Height())
			}
		}
	}
}

// P8.5: Steps is at most Len, and with heights of 1 the number of the rows before the place.
func TestMostSteps(t *testing.T) {
	for seed := range uint64(100) {
		random := source(seed)
		all := some(random, 60)
		l, _ := listOf(t, all...)
		flat := new(skip.List)
		for _, x := range all {
			flat.Put(x.row, 1-int(seed%3))
		}
		for _, x := range append(some(random, 40), all...) {
			p := at(x.row)
			if n := l.Steps(p.key, p.seq); n < 0 || n > l.Len() {
				t.Fatalf("seed %d: Steps(%v) = %d, Len = %d", seed, p, n, l.Len())
			}
			before := 0
			for r := range flat.All() {
				if compare(at(r), p) < 0 {
					before++
				}
			}
			if n := flat.Steps(p.key, p.seq); n != before {
				t.Fatalf("seed %d: Steps(%v) = %d, want %d", seed, p, n, before)
			}
		}
	}
}

// P8.6: From has a suffix of All, of which Seek returns the first row, as it returns the row whose place is asked.
func TestSuffix(t *testing.T) {
	for seed := range uint64(100) {
		random := source(seed)
		l, _ := listOf(t, some(random, 60)...)
		all := collect(l.All())
		for i, r := range all {
			if got, ok := l.Seek(r.Key, r.Seq); got != r || !ok {
				t.Fatalf("seed %d: Seek of the place of %v = %v, %v", seed, r, got, ok)
			}
			if got := collect(l.From(r.Key, r.Seq)); !slices.Equal(got, all[i:]) {
				t.Fatalf("seed %d: From the place of %v has %v", seed, r, got)
			}
		}
		for _, x := range some(random, 60) {
			rows := collect(l.From(x.row.Key, x.row.Seq))
			if len(rows) > len(all) || !slices.Equal(rows, all[len(all)-len(rows):]) {
				t.Fatalf("seed %d: From(%v) has %v", seed, at(x.row), rows)
			}
			first, ok := l.Seek(x.row.Key, x.row.Seq)
			if ok != (len(rows) > 0) || ok && first != rows[0] || !ok && first != (api.Row{}) {
				t.Fatalf("seed %d: Seek(%v) = %v, %v, From has %v", seed, at(x.row), first, ok, rows)
			}
		}
	}
}

// P8.1 to P8.3: many rows, inserted from the first one on, from the last one on, and in any order.
func TestManyRows(t *testing.T) {
	const many = 50000
	random := source(5)
	ascending := make([]int, many)
	for i := range ascending {
		ascending[i] = i
	}
	descending := slices.Clone(ascending)
	slices.Reverse(descending)
	key := func(i int) (string, uint64) { return fmt.Sprintf("key %05d", i/3), uint64(many - i%3) }
	for _, order := range [][]int{ascending, descending, random.Perm(many)} {
		l := new(skip.List)
		for _, i := range order {
			height := 1
			for height < 12 && random.IntN(2) == 0 {
				height++
			}
			k, seq := key(i)
			if !l.Put(row(k, seq), height) {
				t.Fatalf("Put of row %d = false", i)
			}
		}
		i := 0
		for r := range l.All() {
			if k, seq := key(i); r != row(k, seq) {
				t.Fatalf("row %d is %v", i, r)
			}
			i++
		}
		if i != many || l.Len() != many || l.Height() != 12 {
			t.Errorf("All has %d rows, Len = %d, Height = %d", i, l.Len(), l.Height())
		}
		for i := range many {
			k, seq := key(i)
			if r, ok := l.Seek(k, seq); !ok || at(r) != (place{k, seq}) {
				t.Fatalf("Seek of row %d = %v, %v", i, r, ok)
			}
			// With such heights a search passes some two rows a level, and those of the highest one.
			if n := l.Steps(k, seq); n > 200 || n < 1 && i > 0 {
				t.Fatalf("Steps to row %d = %d", i, n)
			}
		}
	}
}
