package mem_test

import (
	"cmp"
	"fmt"
	"math"
	"math/rand/v2"
	"slices"
	"strings"
	"testing"

	"freshet/api"
	"freshet/mem"
)

// slow is a table as the chapter's words have it: rows in any order, of which each answer looks at all.
type slow struct{ rows []api.Row }

// compare tells the order of two rows, by their keys and, from the greatest on, by their numbers.
func compare(a, b api.Row) int {
	return cmp.Or(cmp.Compare(a.Key, b.Key), cmp.Compare(b.Seq, a.Seq))
}

// isArg and isLong tell the causes of the errors of a batch (layer 6).
func isArg(b api.Batch) bool {
	wrong := func(w api.Write) bool {
		return w.Kind != 1 && w.Kind != 2 || w.Key == "" || w.Kind == 2 && w.Value != ""
	}
	return len(b.List) == 0 || b.Seq == 0 || b.Seq > 1<<56-64 || slices.ContainsFunc(b.List, wrong)
}

func isLong(b api.Batch) bool {
	return len(b.List) > 64 || slices.ContainsFunc(b.List, func(w api.Write) bool { return len(w.Key) > 520 || len(w.Value) > 2048 })
}

// Add holds each row of the batch against each of the table.
func (s *slow) Add(b api.Batch) api.Errno {
	switch {
	case isArg(b):
		return api.ErrArg
	case isLong(b):
		return api.ErrLong
	}
	var rows []api.Row
	for i, w := range b.List {
		r := api.Row{Key: w.Key, Seq: b.Seq + uint64(i), Kind: w.Kind, Value: w.Value}
		for _, x := range s.rows {
			if x.Key == r.Key && x.Seq == r.Seq {
				return api.ErrArg
			}
		}
		rows = append(rows, r)
	}
	s.rows = append(s.rows, rows...)
	return api.OK
}

// Get takes the greatest of all numbers that may be.
func (s *slow) Get(key string, at uint64) (api.Row, bool) {
	var best api.Row
	found := false
	for _, r := range s.rows {
		if r.Key == key && r.Seq <= at && (!found || r.Seq > best.Seq) {
			best, found = r, true
		}
	}
	return best, found
}

// Rows sorts all rows.
func (s *slow) Rows() []api.Row {
	return slices.SortedFunc(slices.Values(s.rows), compare)
}

// Range looks at the key of each row.
func (s *slow) Range(from, to string) []api.Row {
	var l []api.Row
	for _, r := range s.Rows() {
		if r.Key >= from && (to == "" || r.Key < to) {
			l = append(l, r)
		}
	}
	return l
}

// Room adds up all rows.
func (s *slow) Room() int {
	n := 0
	for _, r := range s.rows {
		n += len(r.Key) + len(r.Value) + 16
	}
	return n
}

// Ends has the least and the greatest Seq.
func (s *slow) Ends() (least, greatest uint64) {
	if len(s.rows) == 0 {
		return 0, 0
	}
	least = math.MaxUint64
	for _, r := range s.rows {
		least, greatest = min(least, r.Seq), max(greatest, r.Seq)
	}
	return least, greatest
}

// source returns numbers that look random and are the same in each run.
func source(seed uint64) *rand.Rand { return rand.New(rand.NewPCG(seed, 12)) }

// put and del are writes, and of a batch.
func put(key, value string) api.Write { return api.Write{Kind: 1, Key: key, Value: value} }
func del(key string) api.Write        { return api.Write{Kind: 2, Key: key} }
func of(seq uint64, l ...api.Write) api.Batch {
	return api.Batch{Seq: seq, List: l}
}

// sized is a batch with the heights of its rows.
type sized struct {
	batch   api.Batch
	heights []int
}

// tableOf is a table of batches, and the slow one.
func tableOf(t *testing.T, l ...sized) (*mem.Table, *slow) {
	t.Helper()
	table, s := mem.New(), new(slow)
	for _, x := range l {
		isAdd(t, table, s, x.batch, x.heights...)
	}
	return table, s
}

// isAdd adds a batch to a table and to the slow one, and tests the answer.
func isAdd(t *testing.T, table *mem.Table, s *slow, b api.Batch, heights ...int) {
	t.Helper()
	want := s.Add(b)
	if e := table.Add(b, heights); e != want {
		t.Fatalf("Add(%v, %v) = %d, want %d", b, heights, e, want)
	}
}

// isCount tests what a table tells of all its rows.
func isCount(t *testing.T, what string, table *mem.Table, s *slow) {
	t.Helper()
	if got, want := table.Rows(), s.Rows(); !slices.Equal(got, want) {
		t.Fatalf("%s: Rows = %v, want %v", what, got, want)
	}
	if room, n := table.Room(), table.Len(); room != s.Room() || n != len(s.rows) {
		t.Fatalf("%s: Room = %d, Len = %d, want %d, %d", what, room, n, s.Room(), len(s.rows))
	}
	least, greatest := s.Ends()
	if a, b := table.Least(), table.Greatest(); a != least || b != greatest {
		t.Fatalf("%s: Least = %d, Greatest = %d, want %d, %d", what, a, b, least, greatest)
	}
}

// isGet tests what a table tells of a key at a number.
func isGet(t *testing.T, what string, table *mem.Table, s *slow, key string, at uint64) {
	t.Helper()
	want, found := s.Get(key, at)
	if r, ok := table.Get(key, at); r != want || ok != found {
		t.Fatalf("%s: Get(%q, %d) = %v, %v, want %v, %v", what, key, at, r, ok, want, found)
	}
}

// isRange tests what a table tells of a range of keys.
func isRange(t *testing.T, what string, table *mem.Table, s *slow, from, to string) {
	t.Helper()
	if got, want := table.Range(from, to), s.Range(from, to); !slices.Equal(got, want) {
		t.Fatalf("%s: Range(%q, %q) = %v, want %v", what, from, to, got, want)
	}
}

// isTable tests all that a table tells, of its own keys and of other ones.
func isTable(t *testing.T, what string, table *mem.Table, s *slow, others ...string) {
	t.Helper()
	isCount(t, what, table, s)
	keys, seqs := keysOf(s), map[uint64]bool{0: true, math.MaxUint64: true}
	keys = append(keys, others...)
	for _, r := range s.rows {
		seqs[r.Seq-1], seqs[r.Seq], seqs[r.Seq+1] = true, true, true
	}
	for _, key := range keys {
		for at := range seqs {
			isGet(t, what, table, s, key, at)
		}
		for _, to := range keys {
			isRange(t, what, table, s, key, to)
		}
	}
}

// keysOf has the keys of a table, with what is just before and behind them, and edges.
func keysOf(s *slow) []string {
	all := map[string]bool{"": true, "\x00": true, strings.Repeat("\xff", 521): true}
	for _, r := range s.rows {
		all[r.Key], all[r.Key+"\x00"], all[r.Key[:len(r.Key)-1]] = true, true, true
	}
	var l []string
	for key := range all {
		l = append(l, key)
	}
	slices.Sort(l)
	return l
}

// some returns batches with any heights, some of which are not valid, or have rows whose places are taken.
func some(random *rand.Rand, many int) []sized {
	keys := []string{"a", "aa", "ab", "a\x00", "b", "b\xff", "\x00", "\xff", "c", "some longer key"}
	starts := []uint64{1, 2, 3, 5, 9, 20, 1 << 40, 1<<56 - 65, 1<<56 - 64, 1 + random.Uint64N(1<<56-64)}
	l := make([]sized, many)
	for i := range l {
		l[i].batch.Seq = starts[random.IntN(len(starts))]
		for range 1 + random.IntN(4) {
			w := del(keys[random.IntN(len(keys))])
			if random.IntN(3) > 0 {
				w = put(w.Key, strings.Repeat("v", random.IntN(4))+fmt.Sprint(i))
			}
			l[i].batch.List = append(l[i].batch.List, w)
		}
		for range random.IntN(6) {
			l[i].heights = append(l[i].heights, random.IntN(18)-3)
		}
		if random.IntN(12) == 0 {
			spoil(random, &l[i].batch)
		}
	}
	return l
}

// spoil makes a batch one that is not valid.
func spoil(random *rand.Rand, b *api.Batch) {
	i := random.IntN(len(b.List))
	switch random.IntN(6) {
	case 0:
		b.Seq = 0
	case 1:
		b.Seq = 1<<56 - 63
	case 2:
		b.List = nil
	case 3:
		b.List[i].Kind = 3
	case 4:
		b.List[i].Key = ""
	case 5:
		b.List[i].Key = strings.Repeat("k", 521)
	}
}
