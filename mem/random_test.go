package mem_test

import (
	"fmt"
	"math"
	"slices"
	"testing"

	"freshet/api"
	"freshet/mem"
)

// P9.1 to P9.4: random batches, held against what the chapter says of them.
func TestHeldAgainstSlow(t *testing.T) {
	for seed := range uint64(150) {
		random := source(seed)
		table, s := mem.New(), new(slow)
		for _, x := range some(random, random.IntN(25)) {
			isAdd(t, table, s, x.batch, x.heights...)
			isCount(t, fmt.Sprint("seed ", seed), table, s)
		}
		isTable(t, fmt.Sprint("seed ", seed), table, s, "aaa", "bb", "c\x00", "some", "some longer key ")
	}
}

// P9.1 to P9.4: all sequences of up to three of these batches, in all orders, also again.
func TestAllShortTables(t *testing.T) {
	batches := []api.Batch{
		of(1, put("a", "x")), of(1, del("b")), of(2, put("a", "yy")), of(1, put("a", "x"), del("a")), of(1, put("b", ""), put("a", "z")),
		of(2, put("b", "u"), put("b", "w")), of(3, del("a"), put("ab", "1"), del("b")), of(0, del("a")), of(2, put("a", "v"), del("")),
	}
	var try func(table func() (*mem.Table, *slow), what string, more int)
	try = func(made func() (*mem.Table, *slow), what string, more int) {
		table, s := made()
		isTable(t, what, table, s)
		if more == 0 {
			return
		}
		for i, b := range batches {
			try(func() (*mem.Table, *slow) {
				table, s := made()
				isAdd(t, table, s, b, i, 3, 1)
				return table, s
			}, fmt.Sprint(what, " ", i), more-1)
		}
	}
	try(func() (*mem.Table, *slow) { return mem.New(), new(slow) }, "batches", 3)
}

// whole has the batches of a list that a table takes, one behind the other.
func whole(l []sized) []sized {
	var out []sized
	s := new(slow)
	for _, x := range l {
		if s.Add(x.batch) == api.OK {
			out = append(out, x)
		}
	}
	return out
}

// P9.5: Get for a number doesn't depend on the order in which batches are added.
func TestAnyOrder(t *testing.T) {
	for seed := range uint64(60) {
		random := source(seed)
		l := whole(some(random, 20))
		_, s := tableOf(t, l...)
		for range 6 {
			random.Shuffle(len(l), func(i, j int) { l[i], l[j] = l[j], l[i] })
			table, _ := tableOf(t, l...)
			isTable(t, fmt.Sprint("seed ", seed), table, s)
		}
	}
}

// P9.5: Get for a number doesn't depend on batches all of whose numbers are greater, whether they are added or not.
func TestGreaterNumbers(t *testing.T) {
	for seed := range uint64(60) {
		random := source(seed)
		l := whole(some(random, 20))
		all, _ := tableOf(t, l...)
		for _, x := range l {
			at := x.batch.Seq + uint64(random.IntN(3)) - 1
			few, s := mem.New(), new(slow)
			for _, y := range l {
				if y.batch.Seq <= at {
					isAdd(t, few, s, y.batch, y.heights...)
				}
			}
			for _, key := range keysOf(s) {
				a, okA := all.Get(key, at)
				b, okB := few.Get(key, at)
				if a != b || okA != okB {
					t.Fatalf("seed %d: Get(%q, %d) = %v, %v with all batches, and %v, %v", seed, key, at, a, okA, b, okB)
				}
			}
		}
	}
}

// P9.6: heights change no result, nor does it matter that there are none.
func TestAnyHeights(t *testing.T) {
	for seed := range uint64(60) {
		random := source(seed)
		l := some(random, 20)
		_, s := tableOf(t, l...)
		for range 4 {
			table := mem.New()
			other := new(slow)
			for _, x := range l {
				var heights []int
				for range random.IntN(6) {
					heights = append(heights, random.IntN(20)-4)
				}
				isAdd(t, table, other, x.batch, heights...)
			}
			isTable(t, fmt.Sprint("seed ", seed), table, s)
		}
	}
}

// P9.6: two ranges that meet are one; Room is the sum of the sizes of all rows.
func TestCut(t *testing.T) {
	for seed := range uint64(60) {
		table, s := tableOf(t, some(source(seed), 12)...)
		keys := keysOf(s)
		for _, from := range keys {
			for _, cut := range keys {
				if cut == "" || from > cut {
					continue
				}
				for _, to := range keys {
					if to != "" && cut > to {
						continue
					}
					got := append(table.Range(from, cut), table.Range(cut, to)...)
					if !slices.Equal(got, table.Range(from, to)) {
						t.Fatalf("seed %d: the ranges of %q, %q and %q have %v", seed, from, cut, to, got)
					}
				}
			}
		}
		room := 0
		for _, r := range table.Rows() {
			room += len(r.Key) + len(r.Value) + 16
		}
		if room != table.Room() {
			t.Errorf("seed %d: Room = %d, the rows' sizes are %d", seed, table.Room(), room)
		}
	}
}

// P9.1 to P9.4: many rows, batch by batch.
func TestManyRows(t *testing.T) {
	const many = 1000
	table := mem.New()
	random := source(8)
	for _, i := range random.Perm(many) {
		b := api.Batch{Seq: uint64(1 + i*64)}
		var heights []int
		for k := range 64 {
			b.List = append(b.List, put(fmt.Sprintf("key %03d", k), fmt.Sprint(i)))
			heights = append(heights, 1)
			for heights[k] < 12 && random.IntN(2) == 0 {
				heights[k]++
			}
		}
		if e := table.Add(b, heights); e != api.OK {
			t.Fatalf("Add of batch %d = %d", i, e)
		}
	}
	if table.Len() != many*64 || table.Least() != 1 || table.Greatest() != many*64 {
		t.Errorf("Len = %d, Least = %d, Greatest = %d", table.Len(), table.Least(), table.Greatest())
	}
	for i, r := range table.Rows() {
		batch, k := many-1-i%many, i/many
		if want := (api.Row{Key: fmt.Sprintf("key %03d", k), Seq: uint64(1 + batch*64 + k), Kind: 1, Value: fmt.Sprint(batch)}); r != want {
			t.Fatalf("row %d is %v, want %v", i, r, want)
		}
	}
	for i := range many {
		k := i % 64
		want := api.Row{Key: fmt.Sprintf("key %03d", k), Seq: uint64(1 + i*64 + k), Kind: 1, Value: fmt.Sprint(i)}
		for _, at := range []uint64{want.Seq, want.Seq + 1, want.Seq + 63} {
			if r, ok := table.Get(want.Key, at); r != want || !ok {
				t.Fatalf("Get(%s, %d) = %v, %v, want %v", want.Key, at, r, ok, want)
			}
		}
	}
	if l := table.Range("key 010", "key 012"); len(l) != 2*many || l[0].Key != "key 010" || l[2*many-1].Key != "key 011" {
		t.Errorf("Range has %d rows", len(l))
	}
	if r, ok := table.Get("key 063", math.MaxUint64); !ok || r.Seq != many*64 {
		t.Errorf("Get at the greatest number = %v, %v", r, ok)
	}
}
