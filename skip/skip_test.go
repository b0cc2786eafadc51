package skip_test

import (
	"fmt"
	"math"
	"slices"
	"strings"
	"testing"
	"unsafe"

	"freshet/api"
	"freshet/skip"
)

// isSeek tests what Seek returns, by the place of the row.
func isSeek(t *testing.T, l *skip.List, key string, seq uint64, want place) {
	t.Helper()
	r, ok := l.Seek(key, seq)
	if at(r) != want || !ok {
		t.Errorf("Seek(%s, %d) = %v, %v, want %v", key, seq, r, ok, want)
	}
}

// The chapter's examples: P8.1, P8.2, P8.3.
func TestExamples(t *testing.T) {
	l, s := listOf(t, high{row("a", 1), 1}, high{row("a", 2), 3}, high{row("b", 1), 2})
	if got := collect(l.All()); !slices.Equal(got, []api.Row{row("a", 2), row("a", 1), row("b", 1)}) {
		t.Errorf("All has %v", got)
	}
	if h, n := l.Height(), l.Len(); h != 3 || n != 3 {
		t.Errorf("Height = %d, Len = %d", h, n)
	}
	isSeek(t, l, "a", 1, place{"a", 1})
	isSeek(t, l, "a", 0, place{"b", 1})
	if r, ok := l.Seek("b", 0); ok || r != (api.Row{}) {
		t.Errorf("Seek(b, 0) = %v, %v", r, ok)
	}
	if got := collect(l.From("b", 0)); got != nil {
		t.Errorf("From(b, 0) has %v", got)
	}
	if got := collect(l.From("a", 1)); !slices.Equal(got, []api.Row{row("a", 1), row("b", 1)}) {
		t.Errorf("From(a, 1) has %v", got)
	}
	if n := l.Steps("b", 1); n != 2 {
		t.Errorf("Steps(b, 1) = %d, want 2", n)
	}
	if l.Put(api.Row{Key: "a", Seq: 2}, 5) {
		t.Error("Put(a 2) = true")
	}
	isList(t, "the example", l, s, beside(place{"a", 1}, place{"a", 2}, place{"b", 1})...)
}

// isEmpty tests that a list has no rows, and that its iterators can be used.
func isEmpty(t *testing.T, what string, l *skip.List) {
	t.Helper()
	for _, p := range []place{{"", 0}, {"", math.MaxUint64}, {"a", 0}, {"a", 5}, {"\xff", math.MaxUint64}} {
		if r, ok := l.Seek(p.key, p.seq); ok || r != (api.Row{}) {
			t.Errorf("%s: Seek(%v) = %v, %v", what, p, r, ok)
		}
		if n := l.Steps(p.key, p.seq); n != 0 {
			t.Errorf("%s: Steps(%v) = %d", what, p, n)
		}
		if rows := l.From(p.key, p.seq); rows == nil || collect(rows) != nil || collect(rows) != nil {
			t.Errorf("%s: From(%v) has rows, or is nil", what, p)
		}
	}
	if rows := l.All(); rows == nil || collect(rows) != nil || collect(rows) != nil {
		t.Errorf("%s: All has rows, or is nil", what)
	}
	if l.Len() != 0 || l.Height() != 0 {
		t.Errorf("%s: Len = %d, Height = %d", what, l.Len(), l.Height())
	}
}

// P8.1 to P8.3: a nil list has no rows and takes none.
func TestNil(t *testing.T) {
	var l *skip.List
	isEmpty(t, "a nil list", l)
	for _, height := range []int{-1, 0, 1, 5, 12, 13} {
		if l.Put(row("a", 1), height) {
			t.Errorf("Put of a nil list with the height %d = true", height)
		}
	}
	isEmpty(t, "a nil list behind Put", l)
}

// P8.1 to P8.3: the zero list has no rows, and takes them.
func TestZero(t *testing.T) {
	var l skip.List
	isEmpty(t, "the zero list", &l)
	holder := struct{ skip.List }{}
	isEmpty(t, "an embedded list", &holder.List)
	if !l.Put(api.Row{}, 0) || !holder.Put(row("a", 1), 5) {
		t.Error("Put to a list without rows = false")
	}
	if r, ok := l.Seek("", 0); !ok || r != (api.Row{}) || l.Len() != 1 || l.Height() != 1 {
		t.Errorf("with a zero row: Seek = %v, %v, Len = %d, Height = %d", r, ok, l.Len(), l.Height())
	}
	if got := collect(l.All()); len(got) != 1 {
		t.Errorf("with a zero row: All has %v", got)
	}
	if holder.Len() != 1 || holder.Height() != 5 {
		t.Errorf("Len = %d, Height = %d", holder.Len(), holder.Height())
	}
}

// P8.1: a place is taken once; whatever else stands in the row, or is its height, nothing changes.
func TestPutAgain(t *testing.T) {
	all := []high{{row("b", 5), 2}, {row("a", 7), 4}, {row("b", 9), 1}, {row("", 0), 3}, {row("c", math.MaxUint64), 2}}
	l, s := listOf(t, all...)
	for _, x := range all {
		for height := -1; height <= 14; height++ {
			for _, r := range []api.Row{x.row, {Key: x.row.Key, Seq: x.row.Seq}, {Key: x.row.Key, Seq: x.row.Seq, Kind: 2}, {Key: x.row.Key, Seq: x.row.Seq, Kind: -9, Value: "another one"}} {
				if l.Put(r, height) {
					t.Errorf("Put(%v, %d) again = true", r, height)
				}
			}
		}
		isList(t, fmt.Sprint("behind Put of ", at(x.row), " again"), l, s, beside(at(x.row))...)
	}
	// What isn't taken is beside it.
	for i, p := range []place{{"b", 6}, {"b", 4}, {"b\x00", 5}, {"a", 5}, {"", 5}, {"", math.MaxUint64}, {"c", 0}, {"bb", 5}} {
		if !l.Put(row(p.key, p.seq), i) || !s.Put(row(p.key, p.seq), i) {
			t.Errorf("Put(%v) = false", p)
		}
		isList(t, fmt.Sprint("behind Put of ", p), l, s, beside(p)...)
	}
}

// P8.1, P8.3: heights at and beyond the edges count as 1 or as 12.
func TestHeights(t *testing.T) {
	heights := []int{math.MinInt, math.MinInt + 1, math.MinInt32, -1 << 40, -256, -13, -12, -2, -1, 0, 1, 2, 3, 4, 5, 6, 7, 8, 9, 10, 11, 12, 13, 14, 24, 127, 128, 255, 256, 257, 1<<16 + 3, 1<<32 + 2, math.MaxInt32, math.MaxInt - 1, math.MaxInt}
	for _, a := range heights {
		l, _ := listOf(t, high{row("b", 1), a})
		want := a
		if a < 1 {
			want = 1
		} else if a > 12 {
			want = 12
		}
		if h := l.Height(); h != want {
			t.Errorf("the height of one row with the height %d: %d, want %d", a, h, want)
		}
		if n := l.Steps("c", 1); n != 1 {
			t.Errorf("Steps past one row with the height %d: %d", a, n)
		}
		for _, b := range heights {
			for _, key := range []string{"a", "c"} {
				l, s := listOf(t, high{row("b", 1), a}, high{row(key, 1), b}, high{row("bb", 2), 2}, high{row("d", 2), 1})
				isList(t, fmt.Sprint("heights ", a, " and ", b), l, s, beside(place{"d", 2})...)
			}
		}
	}
}

// P8.1, P8.2: rows are in the order of the bytes of their keys, and of their numbers from the greatest on; kinds and values may be any.
func TestOrder(t *testing.T) {
	keys := []string{"", "\x00", "\x00\x00", "\x00a", "\x00\xff", "A", "Z", "a", "a\x00", "a\x00\x00", "aa", "ab", "a\xff", "b", "\x7f", "\x80", "é", "\xfe", "\xff", "\xff\x00", "\xff\xff", strings.Repeat("a", 520), strings.Repeat("a", 521), strings.Repeat("\xff", 3000)}
	seqs := []uint64{0, 1, 2, 255, 256, 1<<32 - 1, 1 << 32, 1<<56 - 1, 1 << 56, 1<<63 - 1, 1 << 63, 1<<63 + 1, math.MaxUint64 - 1, math.MaxUint64}
	kinds := []int{1, 2, 0, 3, -1, math.MaxInt, math.MinInt}
	var all []high
	var places []place
	random := source(1)
	for _, key := range keys {
		for _, seq := range seqs {
			n := len(all)
			r := api.Row{Key: key, Seq: seq, Kind: kinds[n%len(kinds)], Value: strings.Repeat("v", n%5*n*8)}
			all = append(all, high{r, 1 + random.IntN(4)})
		}
		places = append(places, place{key, 77})
	}
	random.Shuffle(len(all), func(i, j int) { all[i], all[j] = all[j], all[i] })
	l, s := listOf(t, all...)
	isList(t, "all keys and numbers", l, s, beside(places...)...)
}

// P8.1 to P8.3: behind each Put, the list is what it should be.
func TestPutOneByOne(t *testing.T) {
	for seed := range uint64(20) {
		random := source(seed)
		l, s := new(skip.List), new(slow)
		for range 40 {
			r, height := row(string([]byte{byte('a' + random.IntN(5))}), uint64(random.IntN(8))), random.IntN(14)
			if got, want := l.Put(r, height), s.Put(r, height); got != want {
				t.Fatalf("Put(%v, %d) = %v, want %v", r, height, got, want)
			}
			isList(t, fmt.Sprint("seed ", seed), l, s, beside(at(r))...)
		}
	}
}

// letters is a list of rows a to h, with unlike heights.
func letters(t *testing.T) *skip.List {
	t.Helper()
	var all []high
	for i, height := range []int{1, 3, 1, 2, 4, 1, 1, 2} {
		all = append(all, high{row(string([]byte{byte('a' + i)}), 1), height})
	}
	l, _ := listOf(t, all...)
	return l
}

// keysOf has the keys of rows, one behind the other.
func keysOf(l []api.Row) string {
	s := ""
	for _, r := range l {
		s += r.Key
	}
	return s
}

// P8.2: an iterator can be used again, and one can be used within the other.
func TestIteratorsAgain(t *testing.T) {
	l := letters(t)
	all, from := l.All(), l.From("d", 1)
	for range 3 {
		if got := keysOf(collect(all)); got != "abcdefgh" {
			t.Errorf("All has %s", got)
		}
		if got := keysOf(collect(from)); got != "defgh" {
			t.Errorf("From(d, 1) has %s", got)
		}
	}
	pairs := 0
	for a := range from {
		for b := range from {
			if got := keysOf(collect(from)); got != "defgh" {
				t.Errorf("From(d, 1) within itself, at %s %s, has %s", a.Key, b.Key, got)
			}
			pairs++
		}
		if got := keysOf(collect(all)); got != "abcdefgh" {
			t.Errorf("All, at %s, has %s", a.Key, got)
		}
		isSeek(t, l, "b", 0, place{"c", 1})
	}
	if pairs != 25 {
		t.Errorf("%d pairs, want 25", pairs)
	}
}

// P8.2: an iterator can be left after any row, and starts from its first row when it is used again.
func TestIteratorsLeft(t *testing.T) {
	l := letters(t)
	all, from := l.All(), l.From("c", 0)
	for n := 1; n <= 8; n++ {
		var got []api.Row
		for r := range all {
			got = append(got, r)
			if len(got) == n {
				break
			}
		}
		if s := keysOf(got); s != "abcdefgh"[:n] {
			t.Errorf("All left after %d rows: %s", n, s)
		}
	}
	for n := 1; n <= 5; n++ {
		var got []api.Row
		// The iterator itself may not call on when it was told to end.
		from(func(r api.Row) bool {
			got = append(got, r)
			return len(got) < n
		})
		if s := keysOf(got); s != "defgh"[:n] {
			t.Errorf("From(c, 0) left after %d rows: %s", n, s)
		}
	}
	if l.Len() != 8 || keysOf(collect(all)) != "abcdefgh" || keysOf(collect(from)) != "defgh" {
		t.Error("the list isn't what it was")
	}
}

// P8.2: an iterator goes over the rows that the list has while the loop runs, not over those that it had when the iterator was made.
func TestIteratorsMadeEarlier(t *testing.T) {
	l := new(skip.List)
	all, first, from, behind := l.All(), l.From("", math.MaxUint64), l.From("c", 5), l.From("x", 0)
	want := []struct {
		put                      string
		all, first, from, behind string
	}{
		{"d", "d", "d", "d", ""}, {"b", "bd", "bd", "d", ""}, {"c", "bcd", "bcd", "cd", ""}, {"a", "abcd", "abcd", "cd", ""}, {"y", "abcdy", "abcdy", "cdy", "y"}, {"cc", "abcccdy", "abcccdy", "cccdy", "y"}, {"", "abcccdy", "abcccdy", "cccdy", "y"},
	}
	for i, x := range want {
		if !l.Put(row(x.put, 5), 1+i*3%5) {
			t.Fatalf("Put(%s) = false", x.put)
		}
		if got := keysOf(collect(all)); got != x.all {
			t.Errorf("behind %s, All has %s, want %s", x.put, got, x.all)
		}
		if got := keysOf(collect(first)); got != x.first {
			t.Errorf("behind %s, From(empty) has %s, want %s", x.put, got, x.first)
		}
		if got := keysOf(collect(from)); got != x.from {
			t.Errorf("behind %s, From(c, 5) has %s, want %s", x.put, got, x.from)
		}
		if got := keysOf(collect(behind)); got != x.behind {
			t.Errorf("behind %s, From(x, 0) has %s, want %s", x.put, got, x.behind)
		}
	}
}

// P1: a loop during which a few rows are inserted ends, and the list is whole behind it.
func TestPutDuringLoop(t *testing.T) {
	l := letters(t)
	for r := range l.All() {
		for _, key := range []string{"a0", "zz", r.Key + "0", ""} {
			l.Put(row(key, 1), 1+len(r.Key))
		}
		if l.Len() > 30 {
			break
		}
	}
	got := collect(l.All())
	if l.Len() != len(got) || !slices.IsSortedFunc(got, func(a, b api.Row) int { return compare(at(a), at(b)) }) {
		t.Errorf("Len = %d, All has %v", l.Len(), got)
	}
}

// P8.3: Steps of a search that goes along one level, or down through several ones.
func TestSteps(t *testing.T) {
	for _, x := range []struct {
		heights []int
		steps   []int // past none of the rows, the first one, and so on
	}{
		{nil, []int{0}},
		{[]int{1}, []int{0, 1}},
		{[]int{12}, []int{0, 1}},
		{[]int{1, 1, 1, 1}, []int{0, 1, 2, 3, 4}},
		{[]int{12, 12, 12, 12}, []int{0, 1, 2, 3, 4}},
		{[]int{1, 1, 1, 2}, []int{0, 1, 2, 3, 1}},
		{[]int{1, 2, 1, 3}, []int{0, 1, 1, 2, 1}},
		{[]int{3, 1, 2, 1, 1, 3, 1}, []int{0, 1, 2, 2, 3, 4, 2, 3}},
		{[]int{1, 2, 3, 4, 5, 6, 7, 8, 9, 10, 11, 12}, []int{0, 1, 1, 1, 1, 1, 1, 1, 1, 1, 1, 1, 1}},
		{[]int{12, 11, 10, 9, 8, 7, 6, 5, 4, 3, 2, 1}, []int{0, 1, 2, 3, 4, 5, 6, 7, 8, 9, 10, 11, 12}},
		{[]int{1, 1, 12, 1, 1, 11, 1, 5}, []int{0, 1, 2, 1, 2, 3, 2, 3, 3}},
	} {
		var all []high
		for i, height := range x.heights {
			all = append(all, high{row(fmt.Sprintf("k%02d", i), 5), height})
		}
		slices.Reverse(all)
		l, s := listOf(t, all...)
		what := fmt.Sprint("heights ", x.heights)
		isList(t, what, l, s)
		for i, want := range x.steps {
			// The row of that index is itself not past the place, and all before it are.
			for _, p := range []place{{fmt.Sprintf("k%02d", i), 5}, {fmt.Sprintf("k%02d", i), 6}, {fmt.Sprintf("k%02d", i-1), 4}} {
				if i == 0 && p.seq == 4 {
					p = place{"", 4}
				}
				if n := l.Steps(p.key, p.seq); n != want {
					t.Errorf("%s: Steps(%v) = %d, want %d", what, p, n, want)
				}
			}
		}
	}
}

// shares tells whether two strings lie in the same memory.
func shares(a, b string) bool {
	if a == "" || b == "" {
		return false
	}
	p, q := uintptr(unsafe.Pointer(unsafe.StringData(a))), uintptr(unsafe.Pointer(unsafe.StringData(b)))
	return p < q+uintptr(len(b)) && q < p+uintptr(len(a))
}

// The rules that hold everywhere: a result is new memory, and shares none with an argument, with another result, or within itself.
func TestNewMemory(t *testing.T) {
	text := strings.Clone("a key, and a value of words")
	key, value := text[:5], text[3:]
	l := new(skip.List)
	l.Put(api.Row{Key: key, Seq: 1, Kind: 1, Value: value}, 2)
	l.Put(api.Row{Key: key, Seq: 2, Kind: 1, Value: key}, 1)
	seen := []string{text}
	take := func(r api.Row) { seen = append(seen, r.Key, r.Value) }
	for range 2 {
		for _, seq := range []uint64{3, 2, 1} {
			r, ok := l.Seek(key, seq)
			if !ok || r.Key != "a key" {
				t.Errorf("Seek(%q, %d) = %v, %v", key, seq, r, ok)
			}
			take(r)
		}
		for r := range l.All() {
			take(r)
		}
		for r := range l.From(key, 1) {
			take(r)
		}
	}
	for i, s := range seen {
		for _, u := range seen[:i] {
			if shares(s, u) {
				t.Errorf("%q shares memory", s)
			}
		}
	}
}

// The rules that hold everywhere: what was given is not kept, neither by the list nor by an iterator that isn't used yet.
func TestNothingKept(t *testing.T) {
	key, value := []byte("b"), []byte("value")
	given := unsafe.String(&key[0], len(key))
	l := new(skip.List)
	l.Put(row("a", 1), 1)
	l.Put(row("c", 1), 2)
	if !l.Put(api.Row{Key: given, Seq: 1, Kind: 1, Value: unsafe.String(&value[0], len(value))}, 3) {
		t.Fatal("Put = false")
	}
	from := l.From(given, 1)
	key[0], value[0] = 'x', 'x'
	want := []api.Row{{Key: "b", Seq: 1, Kind: 1, Value: "value"}, row("c", 1)}
	if got := collect(from); !slices.Equal(got, want) {
		t.Errorf("an earlier From(b, 1) has %v", got)
	}
	if got := collect(l.All()); !slices.Equal(got, slices.Insert(want, 0, row("a", 1))) {
		t.Errorf("All has %v", got)
	}
	// A row that was returned is the caller's own.
	r, _ := l.Seek("b", 1)
	r.Key, r.Seq, r.Kind, r.Value = "z", 7, 2, ""
	isSeek(t, l, "b", 1, place{"b", 1})
}

// P2: calls that return something change nothing, so they return it again; two lists with the same history return the same.
func TestSameAgain(t *testing.T) {
	random := source(3)
	var all []high
	for range 60 {
		all = append(all, high{row(string([]byte{byte('a' + random.IntN(9))}), uint64(random.IntN(20))), random.IntN(15)})
	}
	one, s := listOf(t, all...)
	two, _ := listOf(t, all...)
	for range 3 {
		isList(t, "the one list", one, s, place{"e", 7}, place{"", 0}, place{"z", 0})
		isList(t, "the other one", two, s, place{"e", 7}, place{"", 0}, place{"z", 0})
	}
	// One list's rows are not another one's.
	one.Put(row("m", 1), 12)
	isList(t, "the other one again", two, s, place{"m", 1})
}
