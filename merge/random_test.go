package merge_test

import (
	"fmt"
	"slices"
	"testing"

	"freshet/api"
	"freshet/merge"
)

// P13.1 to P13.3: random lists, held against what the chapter says of them.
func TestHeldAgainstSlow(t *testing.T) {
	for seed := range uint64(2000) {
		random := source(seed)
		var l [][]api.Row
		for range random.IntN(7) {
			l = append(l, someRows(random, random.IntN(20)))
		}
		all, _ := slowMerge(l)
		isSlow(t, l, someMarks(random, all, random.IntN(8))...)
	}
}

// P13.1 to P13.3: random lists in which rows may have changed places, or stand twice.
func TestAnyLists(t *testing.T) {
	refused := 0
	for seed := range uint64(2000) {
		random := source(seed)
		var l [][]api.Row
		for range 1 + random.IntN(4) {
			rows := someRows(random, random.IntN(8))
			if n := len(rows); n > 1 && random.IntN(3) == 0 {
				rows[random.IntN(n)] = rows[random.IntN(n)]
			}
			if n := len(rows); n > 1 && random.IntN(6) == 0 {
				i, j := random.IntN(n), random.IntN(n)
				rows[i], rows[j] = rows[j], rows[i]
			}
			l = append(l, rows)
		}
		isSlow(t, l)
		for _, rows := range l {
			isSlowOfOne(t, rows, someMarks(random, rows, 3)...)
		}
		if _, e := merge.Merge(l); e == api.ErrArg {
			refused++
		}
	}
	if refused < 300 || refused > 1700 {
		t.Errorf("%d were refused", refused)
	}
}

// P13.1: all ways in which three lists can have four places or not.
func TestAllThreeLists(t *testing.T) {
	places := rowsOf(put("a", 2, ""), put("a", 1, ""), put("aa", 2, ""), put("b", 9, ""))
	part := func(which, list int) []api.Row {
		var l []api.Row
		for i, r := range places {
			if which>>i&1 == 1 {
				r.Value = fmt.Sprint("list ", list)
				l = append(l, r)
			}
		}
		return l
	}
	for which := range 1 << 12 {
		isSlow(t, lists(part(which&15, 0), part(which>>4&15, 1), part(which>>8, 2)))
	}
}

// P13.1 to P13.3: all lists of up to four of these rows, in all orders, also again: each is refused or not.
func TestAllOrders(t *testing.T) {
	rows := []api.Row{put("a", 2, ""), del("a", 1), put("aa", 1, "x"), put("b", 1, ""), {}, put("a", 1, "y")}
	all := [][]api.Row{nil}
	for from, more := 0, 4; more > 0; more-- {
		upto := len(all)
		for _, l := range all[from:upto] {
			for _, r := range rows {
				all = append(all, append(slices.Clone(l), r))
			}
		}
		from = upto
	}
	for _, l := range all {
		isSlow(t, lists(l), 1)
		isSlow(t, lists(rows[3:4], l, rows[:2]), 1)
		isSlowOfOne(t, l, 1)
	}
}

// allKinds returns all lists of rows of a key at these numbers, each of which is a put, a delete, of another kind, or not there.
func allKinds(key string, seqs ...uint64) [][]api.Row {
	all := [][]api.Row{nil}
	for _, seq := range seqs {
		for _, l := range all {
			for _, r := range []api.Row{put(key, seq, fmt.Sprint(seq)), del(key, seq), odd(key, seq, 0, "x")} {
				all = append(all, append(slices.Clone(l), r))
			}
		}
	}
	return all
}

// chosen are those of the numbers for which the bit is set.
func chosen(which int, numbers ...uint64) []uint64 {
	var l []uint64
	for i, n := range numbers {
		if which>>i&1 == 1 {
			l = append(l, n)
		}
	}
	return l
}

// P13.2, P13.3: all rows of one key at these numbers, with all sets of marks that can matter.
func TestAllRowsOfOneKey(t *testing.T) {
	for _, l := range allKinds("k", 6, 4, 1, 0) {
		for which := range 1 << 7 {
			marks := chosen(which, 0, 1, 3, 4, 5, 6, most)
			slices.Reverse(marks)
			isSlowOfOne(t, l, marks...)
		}
	}
}

// P13.2, P13.3: all rows of two keys at these numbers, with all sets of these marks.
func TestAllRowsOfTwoKeys(t *testing.T) {
	for _, a := range allKinds("k", 5, 3, 2) {
		for _, b := range allKinds("k\x00", 4, 3, 1) {
			l := append(slices.Clone(a), b...)
			for which := range 1 << 3 {
				isSlowOfOne(t, l, chosen(which, 4, 2, 3)...)
			}
		}
	}
}

// hasContents tests that two lists have the same contents at these numbers.
func hasContents(t *testing.T, what string, a, b []api.Row, numbers []uint64) {
	t.Helper()
	for _, n := range numbers {
		if got, want := at(t, a, n), at(t, b, n); !slices.Equal(got, want) {
			t.Fatalf("%s: at %d, %s have %q, %s have %q", what, n, told(a), got, told(b), want)
		}
	}
}

// P13.4: the contents of merged rows depend neither on the order of the lists, if no place is in two of them, nor on how the rows are in them.
func TestContentsOfAnyLists(t *testing.T) {
	for seed := range uint64(300) {
		random := source(seed)
		all := someRows(random, random.IntN(40))
		numbers := numbersOf(all)
		for range 5 {
			l := dealt(random, all, 1+random.IntN(8))
			hasContents(t, fmt.Sprint("seed ", seed), merged(t, l...), all, numbers)
			random.Shuffle(len(l), func(i, j int) { l[i], l[j] = l[j], l[i] })
			hasContents(t, fmt.Sprint("seed ", seed), merged(t, l...), all, numbers)
		}
	}
}

// P13.5: Drop changes the contents at no mark, nor at the maximum number; with bottom, no key's last row is a delete.
func TestNothingLost(t *testing.T) {
	for seed := range uint64(1000) {
		random := source(seed)
		l := someRows(random, random.IntN(40))
		marks := someMarks(random, l, random.IntN(6))
		for _, bottom := range []bool{false, true} {
			left := dropped(t, l, marks, bottom)
			hasContents(t, fmt.Sprintf("seed %d, bottom %v", seed, bottom), left, l, append(marks, most))
			for i, r := range left {
				if isLast := i == len(left)-1 || left[i+1].Key != r.Key; bottom && isLast && r.Kind != 1 {
					t.Fatalf("seed %d: %q ends with %s", seed, r.Key, told(left[i:i+1]))
				}
			}
		}
	}
}

// P13.5: without bottom, this holds behind merging with rows that have lower numbers, too, which a delete that stays hides.
func TestNothingLostBehindMerge(t *testing.T) {
	for seed := range uint64(1000) {
		random := source(seed)
		var high, low []api.Row
		for _, r := range someRows(random, random.IntN(60)) {
			if r.Seq > 4 {
				high = append(high, r)
			} else {
				low = append(low, r)
			}
		}
		marks := someMarks(random, append(slices.Clone(high), low...), random.IntN(6))
		whole := merged(t, high, low)
		what := fmt.Sprint("seed ", seed)
		hasContents(t, what, merged(t, dropped(t, high, marks, false), low), whole, append(marks, most))
		hasContents(t, what, merged(t, low, dropped(t, high, marks, false)), whole, append(marks, most))
		// The lower ones are all that there is below them.
		hasContents(t, what, merged(t, dropped(t, high, marks, false), dropped(t, low, marks, true)), whole, append(marks, most))
	}
}

// P13.6: merging some of the lists first, in their place, does not change the result; nor does it matter which ones, if no place is in two lists.
func TestMergeSomeFirst(t *testing.T) {
	for seed := range uint64(500) {
		random := source(seed)
		var l [][]api.Row
		for range 1 + random.IntN(7) {
			l = append(l, someRows(random, random.IntN(15)))
		}
		want := merged(t, l...)
		for from := range l {
			for upto := from; upto <= len(l); upto++ {
				some := append(slices.Clone(l[:from]), merged(t, l[from:upto]...))
				if got := merged(t, append(some, l[upto:]...)...); !slices.Equal(got, want) {
					t.Fatalf("seed %d: with the lists %d to %d first, %s, not %s", seed, from, upto, told(got), told(want))
				}
			}
		}
		l = dealt(random, want, 6)
		random.Shuffle(len(l), func(i, j int) { l[i], l[j] = l[j], l[i] })
		if got := merged(t, merged(t, l[0], l[3]), merged(t, l[4], l[1], l[5]), l[2]); !slices.Equal(got, want) {
			t.Fatalf("seed %d: with some lists first, %s, not %s", seed, told(got), told(want))
		}
	}
}

// P13.6: Drop of what Drop returns changes nothing, and with more marks no row goes that would stay.
func TestDropAgain(t *testing.T) {
	for seed := range uint64(1000) {
		random := source(seed)
		l := someRows(random, random.IntN(40))
		marks := someMarks(random, l, random.IntN(6))
		more := append(someMarks(random, l, random.IntN(6)), marks...)
		for _, bottom := range []bool{false, true} {
			left := dropped(t, l, marks, bottom)
			if again := dropped(t, left, marks, bottom); !slices.Equal(again, left) {
				t.Fatalf("seed %d: Drop again leaves %s of %s", seed, told(again), told(left))
			}
			if again := dropped(t, left, more, bottom); !slices.Equal(again, left) {
				t.Fatalf("seed %d: Drop with more marks leaves %s of %s", seed, told(again), told(left))
			}
			stays := dropped(t, l, more, bottom)
			for _, r := range left {
				if !slices.Contains(stays, r) {
					t.Fatalf("seed %d: with the marks %d, %s goes, with %d it stays", seed, more, told(rowsOf(r)), marks)
				}
			}
			// The order of the marks has no part in it.
			random.Shuffle(len(more), func(i, j int) { more[i], more[j] = more[j], more[i] })
			if again := dropped(t, l, more, bottom); !slices.Equal(again, stays) {
				t.Fatalf("seed %d: with the same marks Drop leaves %s, not %s", seed, told(again), told(stays))
			}
		}
	}
}

// P13.6: the contents have ascending keys, each once.
func TestKeysAscend(t *testing.T) {
	for seed := range uint64(300) {
		l := someRows(source(seed), 60)
		for _, n := range numbersOf(l) {
			pairs := at(t, l, n)
			for i := 1; i < len(pairs); i++ {
				if pairs[i-1].Key >= pairs[i].Key {
					t.Fatalf("seed %d: at %d, %q is ahead of %q", seed, n, pairs[i-1].Key, pairs[i].Key)
				}
			}
		}
	}
}
