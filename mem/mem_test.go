package mem_test

import (
	"fmt"
	"math"
	"slices"
	"strings"
	"testing"
	"unsafe"

	"freshet/api"
	"freshet/mem"
)

// The chapter's examples: P9.1 to P9.4.
func TestExamples(t *testing.T) {
	table, s := tableOf(t, sized{of(1, put("a", "x"), put("b", "y")), nil}, sized{of(3, del("a")), nil})
	a1, b2, a3 := api.Row{Key: "a", Seq: 1, Kind: 1, Value: "x"}, api.Row{Key: "b", Seq: 2, Kind: 1, Value: "y"}, api.Row{Key: "a", Seq: 3, Kind: 2}
	for _, x := range []struct {
		key  string
		at   uint64
		want api.Row
		ok   bool
	}{{"a", 2, a1, true}, {"a", 3, a3, true}, {"a", 0, api.Row{}, false}, {"b", 1, api.Row{}, false}, {"b", 2, b2, true}, {"c", 9, api.Row{}, false}} {
		if r, ok := table.Get(x.key, x.at); r != x.want || ok != x.ok {
			t.Errorf("Get(%s, %d) = %v, %v", x.key, x.at, r, ok)
		}
	}
	if l := table.Rows(); !slices.Equal(l, []api.Row{a3, a1, b2}) {
		t.Errorf("Rows = %v", l)
	}
	if l := table.Range("a", "b"); !slices.Equal(l, []api.Row{a3, a1}) {
		t.Errorf("Range(a, b) = %v", l)
	}
	if l := table.Range("b", ""); !slices.Equal(l, []api.Row{b2}) {
		t.Errorf("Range(b, empty) = %v", l)
	}
	if table.Room() != 53 || table.Len() != 3 || table.Least() != 1 || table.Greatest() != 3 {
		t.Errorf("Room = %d, Len = %d, Least = %d, Greatest = %d", table.Room(), table.Len(), table.Least(), table.Greatest())
	}
	if e := table.Add(of(1, put("a", "z")), nil); e != api.ErrArg {
		t.Errorf("Add(1, put a z) = %d", e)
	}
	isTable(t, "the example", table, s)
}

// isEmpty tests that a table has no rows.
func isEmpty(t *testing.T, what string, table *mem.Table) {
	t.Helper()
	for _, key := range []string{"", "a", "\x00", "\xff"} {
		for _, at := range []uint64{0, 1, 5, math.MaxUint64} {
			if r, ok := table.Get(key, at); ok || r != (api.Row{}) {
				t.Errorf("%s: Get(%q, %d) = %v, %v", what, key, at, r, ok)
			}
		}
		for _, to := range []string{"", "a", "b", "\xff\xff"} {
			if l := table.Range(key, to); len(l) != 0 {
				t.Errorf("%s: Range(%q, %q) = %v", what, key, to, l)
			}
		}
	}
	if l := table.Rows(); len(l) != 0 {
		t.Errorf("%s: Rows = %v", what, l)
	}
	if table.Room() != 0 || table.Len() != 0 || table.Least() != 0 || table.Greatest() != 0 {
		t.Errorf("%s: Room = %d, Len = %d, Least = %d, Greatest = %d", what, table.Room(), table.Len(), table.Least(), table.Greatest())
	}
}

// P9.1: New returns a table without rows, each time another one.
func TestNew(t *testing.T) {
	one, two := mem.New(), mem.New()
	isEmpty(t, "a new table", one)
	if e := one.Add(of(7, put("a", "x")), []int{3}); e != api.OK {
		t.Errorf("Add = %d", e)
	}
	isEmpty(t, "another new table", two)
	isEmpty(t, "a table made later", mem.New())
	if one.Len() != 1 || one.Least() != 7 || one.Greatest() != 7 || one.Room() != 18 {
		t.Errorf("Len = %d, Least = %d, Greatest = %d, Room = %d", one.Len(), one.Least(), one.Greatest(), one.Room())
	}
}

// P9.1 to P9.4: a nil table, and one that New didn't make, have no rows and take none; ErrNil comes ahead of all that may be wrong with a batch.
func TestNilAndZero(t *testing.T) {
	for what, table := range map[string]*mem.Table{"a nil table": nil, "a zero table": {}, "another zero table": new(mem.Table)} {
		isEmpty(t, what, table)
		long := of(1, put(strings.Repeat("k", 521), ""))
		for _, b := range []api.Batch{of(1, put("a", "x")), of(1, put("a", "x"), del("b")), {}, of(0, del("a")), long} {
			for _, heights := range [][]int{nil, {}, {1}, {2, 3, 4}} {
				if e := table.Add(b, heights); e != api.ErrNil {
					t.Errorf("%s: Add(%v, %v) = %d", what, b, heights, e)
				}
			}
		}
		isEmpty(t, what+" behind Add", table)
	}
}

// P9.1: what may be wrong with a batch, by each write of it; nothing of it is inserted.
func TestAddWrong(t *testing.T) {
	key, value := strings.Repeat("k", 521), strings.Repeat("v", 2049)
	wrong := map[string]struct {
		w    api.Write
		want api.Errno
	}{
		"an empty key": {put("", "x"), api.ErrArg}, "a delete of an empty key": {del(""), api.ErrArg},
		"a kind of 0": {api.Write{Kind: 0, Key: "c"}, api.ErrArg}, "a kind of 3": {api.Write{Kind: 3, Key: "c"}, api.ErrArg}, "a kind of -1": {api.Write{Kind: -1, Key: "c"}, api.ErrArg},
		"a delete with a value": {api.Write{Kind: 2, Key: "c", Value: "x"}, api.ErrArg},
		"a long key":            {put(key, "x"), api.ErrLong}, "a long value": {put("c", value), api.ErrLong}, "a delete of a long key": {del(key), api.ErrLong},
		"a long value of a delete": {api.Write{Kind: 2, Key: "c", Value: value}, api.ErrArg},
		"a place that is taken":    {put("b", "z"), api.ErrArg}, "a delete at a place that is taken": {del("b"), api.ErrArg},
	}
	for what, x := range wrong {
		for i := range 3 {
			table, s := tableOf(t, sized{of(1, put("a", "x"), put("b", "y"), put("b", "y"), put("b", "y")), []int{2, 1, 3}})
			b := of(2, put("d", "1"), put("e", "2"), put("f", "3"))
			b.List[i] = x.w
			if e := table.Add(b, []int{1, 2, 3}); e != x.want {
				t.Errorf("%s in write %d: Add = %d, want %d", what, i, e, x.want)
			}
			isTable(t, fmt.Sprint(what, " in write ", i), table, s, "d", "e", "f")
		}
	}
}

// P9.1: the numbers and the lengths of batches at their edges, and beside them.
func TestAddEdges(t *testing.T) {
	many := make([]api.Write, 65)
	for i := range many {
		many[i] = put(fmt.Sprintf("k%02d", i), "v")
	}
	key, value := strings.Repeat("k", 520), strings.Repeat("v", 2048)
	for _, x := range []struct {
		b    api.Batch
		want api.Errno
	}{
		{of(1, put(key, value)), api.OK}, {of(1, del(key)), api.OK}, {of(1, put("\x00", "")), api.OK},
		{of(1, many[:64]...), api.OK}, {of(1, many...), api.ErrLong}, {of(1<<56-64, many[:64]...), api.OK},
		{of(1<<56-63, put("a", "x")), api.ErrArg}, {of(1<<56, put("a", "x")), api.ErrArg}, {of(math.MaxUint64, put("a", "x")), api.ErrArg},
		{of(0, put("a", "x")), api.ErrArg}, {of(1), api.ErrArg}, {api.Batch{}, api.ErrArg},
		{of(0, many...), api.ErrArg}, {of(1, append(slices.Clip(many), del(""))...), api.ErrArg},
	} {
		table, s := mem.New(), new(slow)
		if e := table.Add(x.b, nil); e != x.want {
			t.Errorf("Add with the Seq %d of %d writes = %d, want %d", x.b.Seq, len(x.b.List), e, x.want)
		}
		if e := s.Add(x.b); e != x.want {
			t.Errorf("the slow table's Add with the Seq %d of %d writes = %d, want %d", x.b.Seq, len(x.b.List), e, x.want)
		}
		isCount(t, "at the edges", table, s)
		for _, w := range x.b.List {
			isGet(t, "at the edges", table, s, w.Key, math.MaxUint64)
		}
		// A table that is not empty any more takes the same rows once.
		if e := table.Add(x.b, nil); x.want == api.OK && e != api.ErrArg || x.want != api.OK && e != x.want {
			t.Errorf("Add with the Seq %d of %d writes again = %d", x.b.Seq, len(x.b.List), e)
		}
		isCount(t, "at the edges, again", table, s)
	}
}

// P9.1: ErrLong of a batch comes ahead of a place that is taken, as the batch isn't valid.
func TestAddLongAndTaken(t *testing.T) {
	table, s := tableOf(t, sized{of(5, put("a", "x")), nil})
	for _, b := range []api.Batch{of(5, put("a", "y"), put("b", strings.Repeat("v", 2049))), of(4, put(strings.Repeat("k", 521), ""), del("a"))} {
		if e := table.Add(b, nil); e != api.ErrLong {
			t.Errorf("Add = %d, want %d", e, api.ErrLong)
		}
	}
	isTable(t, "behind two long batches", table, s)
}

// P9.1: only the place is taken; the key with other numbers and the number with other keys may be added.
func TestAddBeside(t *testing.T) {
	table, s := tableOf(t, sized{of(5, put("a", "x"), put("b", "y")), nil})
	for _, b := range []api.Batch{of(4, put("a", "1")), of(6, del("a")), of(5, put("aa", "3")), of(6, put("b\x00", "5")), of(5, del("b")), of(4, put("b", "6"), del("c"), put("c", "7"))} {
		isAdd(t, table, s, b, 1, 2, 3)
		isTable(t, fmt.Sprint("behind ", b), table, s)
	}
	for i, b := range []api.Batch{of(5, put("a", "x"), put("b", "y")), of(5, del("a")), of(6, del("b")), of(4, put("zz", "1"), put("a", "1")), of(3, put("zz", "1"), put("a", "1"), put("zz", "2"))} {
		if e := table.Add(b, nil); e != api.ErrArg {
			t.Errorf("batch %d: Add = %d", i, e)
		}
		isTable(t, fmt.Sprint("behind batch ", i, " that isn't added"), table, s, "zz")
	}
}

// P9.1: a batch may write a key repeatedly; each write is a row.
func TestAddSameKey(t *testing.T) {
	table, s := tableOf(t, sized{of(10, put("a", "1"), del("a"), put("a", "2"), put("a", "2"), del("b")), nil})
	isTable(t, "a batch with a key repeatedly", table, s)
	for at, want := range map[uint64]string{9: "", 10: "1", 11: "", 12: "2", 13: "2", 14: "2"} {
		r, ok := table.Get("a", at)
		if ok != (at >= 10) || r.Value != want || ok && r.Seq != min(at, 13) {
			t.Errorf("Get(a, %d) = %v, %v", at, r, ok)
		}
	}
	if table.Len() != 5 {
		t.Errorf("Len = %d", table.Len())
	}
}

// P9.2: a delete is returned like a put, and hides no row of a lesser number from who asks for that number.
func TestGet(t *testing.T) {
	table, s := tableOf(t, sized{of(20, put("k", "x")), nil}, sized{of(30, del("k")), nil}, sized{of(10, del("k")), nil}, sized{of(40, put("k", "")), nil})
	for at, seq := range map[uint64]uint64{0: 0, 9: 0, 10: 10, 11: 10, 19: 10, 20: 20, 29: 20, 30: 30, 39: 30, 40: 40, 41: 40, math.MaxUint64: 40} {
		r, ok := table.Get("k", at)
		if ok != (seq > 0) || r.Seq != seq || !ok && r != (api.Row{}) {
			t.Errorf("Get(k, %d) = %v, %v", at, r, ok)
		}
		// The keys around it have no rows, whatever follows their places.
		for _, key := range []string{"", "j", "k\x00", "kk", "l", "\xff", strings.Repeat("k", 600)} {
			if r, ok := table.Get(key, at); ok || r != (api.Row{}) {
				t.Errorf("Get(%q, %d) = %v, %v", key, at, r, ok)
			}
		}
	}
	isTable(t, "puts and deletes", table, s)
}

// P9.3: ranges, at the keys and beside them; one that ends at or ahead of its start has no rows, and an empty end is none.
func TestRange(t *testing.T) {
	table, _ := tableOf(t, sized{of(1, put("a", "1"), put("b", "2"), put("b\x00", "3"), put("c", "4"), put("b", "5"), put("\xff", "6")), []int{1, 4, 2}})
	for _, x := range []struct{ from, to, want string }{
		{"", "", "1 5 2 3 4 6"}, {"", "\xff\xff", "1 5 2 3 4 6"}, {"", "\xff", "1 5 2 3 4"}, {"a", "b", "1"}, {"a", "b\x00", "1 5 2"}, {"b", "b\x00", "5 2"},
		{"b", "c", "5 2 3"}, {"b\x00", "c\x00", "3 4"}, {"b\x00\x00", "c", ""}, {"c", "", "4 6"}, {"\xff", "", "6"}, {"\xff\x00", "", ""},
		{"b", "b", ""}, {"c", "a", ""}, {"\xff", "a", ""}, {"", "a", ""}, {"", "\x00", ""}, {"d", "e", ""}, {"d", "\xff\x00", "6"},
	} {
		var got []string
		for _, r := range table.Range(x.from, x.to) {
			got = append(got, r.Value)
		}
		if s := strings.Join(got, " "); s != x.want {
			t.Errorf("Range(%q, %q) has %s, want %s", x.from, x.to, s, x.want)
		}
	}
}

// P9.4: the counts behind each batch; numbers come from the greatest on, from the least on, and between.
func TestCounts(t *testing.T) {
	for _, order := range [][]uint64{{1, 2, 3}, {3, 2, 1}, {2, 3, 1}, {2, 1, 3}, {100, 5, 1 << 56 / 2}, {1<<56 - 64, 1}, {7}} {
		table, s := mem.New(), new(slow)
		for i, seq := range order {
			isAdd(t, table, s, of(seq, put(fmt.Sprint("key", i), strings.Repeat("v", i*100)), del("d")), i)
			isCount(t, fmt.Sprint("numbers ", order, " upto ", i), table, s)
		}
	}
}

// P9.1, P9.6: heights at and beyond the edges, too few, too many or none change no result.
func TestHeights(t *testing.T) {
	l := []api.Batch{of(1, put("b", "x"), put("a", "y"), del("c")), of(5, put("a", "z"), put("d", "u")), of(4, del("e"))}
	for _, heights := range [][]int{nil, {}, {1}, {5, 1}, {1, 2, 3}, {12, 12, 12, 12, 12}, {13, 0, -1}, {math.MinInt, math.MaxInt, 0}, {0, math.MaxInt, math.MinInt, 7}} {
		table, s := mem.New(), new(slow)
		for _, b := range l {
			isAdd(t, table, s, b, heights...)
		}
		isTable(t, fmt.Sprint("heights ", heights), table, s)
	}
}

// P9.1: row k gets the height heights[k], or 1; the table embeds its list, which tells the heights that searches go by.
func TestHeightsOfRows(t *testing.T) {
	for _, x := range []struct {
		heights []int
		steps   []int // past none of the rows, the first one, and so on
	}{
		{nil, []int{0, 1, 2, 3, 4}}, {[]int{2}, []int{0, 1, 2, 3, 4}}, {[]int{1, 1}, []int{0, 1, 2, 3, 4}}, {[]int{1, 2}, []int{0, 1, 1, 2, 3}}, {[]int{1, 1, 1, 2}, []int{0, 1, 2, 3, 1}},
		{[]int{1, 1, 1, 2, 5, 6}, []int{0, 1, 2, 3, 1}}, {[]int{0, 3}, []int{0, 1, 1, 2, 3}}, {[]int{1, 1, 12}, []int{0, 1, 2, 1, 2}}, {[]int{1, 2, 1, 3}, []int{0, 1, 1, 2, 1}},
	} {
		table, _ := tableOf(t, sized{of(1, put("a", ""), put("b", ""), put("c", ""), put("d", "")), x.heights})
		for i, want := range x.steps {
			if n := table.Steps(string([]byte{byte('a' + i)}), math.MaxUint64); n != want {
				t.Errorf("heights %v: %d steps past %d rows, want %d", x.heights, n, i, want)
			}
		}
	}
}

// shares tells whether two strings lie in the same memory.
func shares(a, b string) bool {
	if a == "" || b == "" {
		return false
	}
	p, q := uintptr(unsafe.Pointer(unsafe.StringData(a))), uintptr(unsafe.Pointer(unsafe.StringData(b)))
	return p < q+uintptr(len(b)) && q < p+uintptr(len(a))
}

// The rules that hold everywhere: a result is new memory, and shares none with an argument, with another result, or within itself.
func TestNewMemory(t *testing.T) {
	text := strings.Clone("a key, and a value of words")
	key, value := text[:5], text[3:]
	table, _ := tableOf(t, sized{of(1, put(key, value), put(key, key)), nil}, sized{of(3, put(text[:2], text)), []int{4}})
	seen := []string{text}
	take := func(l ...api.Row) {
		for _, r := range l {
			seen = append(seen, r.Key, r.Value)
		}
	}
	for range 2 {
		for _, at := range []uint64{1, 2, 3} {
			r, ok := table.Get(key, at)
			if !ok {
				t.Errorf("Get(%q, %d) = %v, %v", key, at, r, ok)
			}
			take(r)
		}
		take(table.Rows()...)
		take(table.Range("", "")...)
		take(table.Range(key, text)...)
	}
	if len(seen) < 2*2*(3+3+3+2) {
		t.Errorf("%d strings", len(seen))
	}
	for i, s := range seen {
		for _, u := range seen[:i] {
			if shares(s, u) {
				t.Errorf("%q shares memory", s)
			}
		}
	}
}

// The rules that hold everywhere: what was given is neither changed nor kept, and what was returned is the caller's own.
func TestNothingKept(t *testing.T) {
	key, value := []byte("b"), []byte("value")
	writes := append(make([]api.Write, 0, 5), put(unsafe.String(&key[0], 1), unsafe.String(&value[0], 5)), del("c"))
	behind := writes[:5]
	behind[2], behind[4] = put("behind", "it"), del("at the end")
	heights := append(make([]int, 0, 4), 2)
	heights[:4][1], heights[:4][3] = 7, 9
	table := mem.New()
	if e := table.Add(of(1, writes...), heights); e != api.OK {
		t.Fatalf("Add = %d", e)
	}
	if !slices.Equal(behind, []api.Write{put("b", "value"), del("c"), put("behind", "it"), {}, del("at the end")}) || !slices.Equal(heights[:4], []int{2, 7, 0, 9}) {
		t.Errorf("behind Add, the arguments are %v, %v", behind, heights[:4])
	}
	key[0], value[0], writes[1], heights[0] = 'x', 'x', put("d", "other"), 1
	want := []api.Row{{Key: "b", Seq: 1, Kind: 1, Value: "value"}, {Key: "c", Seq: 2, Kind: 2}}
	for range 3 {
		for _, l := range [][]api.Row{table.Rows(), table.Range("b", "d"), table.Range("", "")} {
			if !slices.Equal(l, want) {
				t.Errorf("the rows are %v", l)
			}
			l[0], l[1].Seq = api.Row{}, 77
			_ = append(l, api.Row{Key: "z"})
		}
	}
	if table.Room() != 1+5+16+1+16 || table.Steps("z", 0) != 2 {
		t.Errorf("Room = %d, Steps = %d", table.Room(), table.Steps("z", 0))
	}
}

// P2: calls that return something change nothing, so they return it again; two tables with the same history return the same.
func TestSameAgain(t *testing.T) {
	l := some(source(4), 30)
	one, s := mem.New(), new(slow)
	two := mem.New()
	for _, x := range l {
		want := s.Add(x.batch)
		if a, b := one.Add(x.batch, x.heights), two.Add(x.batch, x.heights); a != want || b != want {
			t.Errorf("Add(%v) = %d and %d, want %d", x.batch, a, b, want)
		}
	}
	for range 3 {
		isTable(t, "the one table", one, s)
		isTable(t, "the other one", two, s)
	}
	if e := one.Add(of(1<<50, put("only the one", "")), nil); e != api.OK {
		t.Errorf("Add = %d", e)
	}
	isTable(t, "the other one again", two, s, "only the one")
}
