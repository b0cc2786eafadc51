package merge_test

import (
	"fmt"
	"slices"
	"strings"
	"testing"
	"unsafe"

	"freshet/api"
	"freshet/merge"
)

// three are the rows of the chapter's examples.
var three = []api.Row{del("a", 3), put("a", 1, "x"), put("b", 2, "y")}

// P13.1 to P13.3: the chapter's examples.
func TestExamples(t *testing.T) {
	isMerged(t, lists(rowsOf(put("a", 1, "x")), rowsOf(put("a", 1, "z"), put("b", 2, "y"))), rowsOf(put("a", 1, "x"), put("b", 2, "y")))
	isAt(t, three, 2, pairsOf("a", "x", "b", "y"))
	isAt(t, three, 3, pairsOf("b", "y"))
	isAt(t, three, most, pairsOf("b", "y"))
	isAt(t, three, 0, nil)
	isDropped(t, three, nil, false, rowsOf(del("a", 3), put("b", 2, "y")))
	isDropped(t, three, nil, true, rowsOf(put("b", 2, "y")))
	isDropped(t, three, []uint64{1}, true, three)
}

// P13.1 to P13.3: rows that are not in order, in whatever way, are refused, wherever they stand.
func TestNotInOrder(t *testing.T) {
	isRefused(t, "b ahead of a", rowsOf(put("b", 1, ""), put("a", 1, "")))
	isRefused(t, "a row twice", rowsOf(put("a", 1, "x"), put("a", 1, "x")))
	isRefused(t, "a place twice", rowsOf(put("a", 1, "x"), put("a", 1, "y")))
	isRefused(t, "a place twice, of two kinds", rowsOf(del("a", 1), put("a", 1, "")))
	isRefused(t, "the smaller number first", rowsOf(put("a", 1, "x"), del("a", 2)))
	isRefused(t, "the smaller number first, of the greatest ones", rowsOf(put("a", most-1, ""), put("a", most, "")))
	isRefused(t, "a longer key first", rowsOf(put("a\x00", 1, ""), put("a", 1, "")))
	isRefused(t, "bytes from 128 on first", rowsOf(put("\x80", 1, ""), put("\x7f", 1, "")))
	isRefused(t, "the empty key behind another one", rowsOf(put("a", 1, ""), put("", 9, "")))
	isRefused(t, "the zero row twice", rowsOf(api.Row{}, api.Row{}))
	l := manyRows(12)
	for i := range l {
		for j := range i {
			m := slices.Clone(l)
			m[i], m[j] = m[j], m[i]
			isRefused(t, "two that changed places", m)
		}
		isRefused(t, "one that stands again", slices.Insert(slices.Clone(l), i, l[i]))
	}
	for _, n := range []int{2, 3, 10000} {
		m := manyRows(n)
		m[n-1] = m[n-2]
		if rows, e := merge.Merge(lists(three, m)); len(rows) != 0 || e != api.ErrArg {
			t.Errorf("Merge with the last one of %d twice: %s, %v", n, told(rows), e)
		}
		if pairs, e := merge.At(m, most); len(pairs) != 0 || e != api.ErrArg {
			t.Errorf("At of the last one of %d twice: %q, %v", n, pairs, e)
		}
		if rows, e := merge.Drop(m, nil, true); len(rows) != 0 || e != api.ErrArg {
			t.Errorf("Drop of the last one of %d twice: %s, %v", n, told(rows), e)
		}
	}
}

// P13.1: one list of many that is not in order, wherever it is, is enough; and lists need not be in order among each other.
func TestMergeEachList(t *testing.T) {
	bad := rowsOf(put("k", 1, ""), put("k", 2, ""))
	for n := 1; n <= 20; n++ {
		var l [][]api.Row
		for i := range n {
			l = append(l, rowsOf(put(string([]byte{byte('z' - i)}), uint64(i), "v")))
		}
		isSlow(t, l)
		for i := range l {
			m := slices.Clone(l)
			m[i] = bad
			if rows, e := merge.Merge(m); len(rows) != 0 || e != api.ErrArg {
				t.Errorf("Merge with list %d of %d not in order: %s, %v", i, n, told(rows), e)
			}
		}
	}
}

// P13.1 to P13.3: nothing is made of nothing, be it nil or empty.
func TestNoRows(t *testing.T) {
	for _, l := range [][][]api.Row{nil, {}, {nil}, {{}}, {nil, {}, nil}, make([][]api.Row, 1000)} {
		isMerged(t, l, nil)
	}
	for _, l := range [][]api.Row{nil, {}} {
		for _, n := range []uint64{0, 1, most} {
			isAt(t, l, n, nil)
			isDropped(t, l, []uint64{n}, true, nil)
			isDropped(t, l, []uint64{n, 3}, false, nil)
		}
		isDropped(t, l, nil, true, nil)
		isDropped(t, l, []uint64{}, false, nil)
	}
	isMerged(t, lists(nil, three), three)
	isMerged(t, lists(three, nil, nil), three)
	isMerged(t, lists(nil, three[2:], nil, []api.Row{}, three[:2], nil), three)
	isDropped(t, three, []uint64{}, false, rowsOf(three[0], three[2]))
}

// P13.1: of a place that several lists have, the row is that of the first of them, whatever stands in it and however many there are.
func TestMergeFirstList(t *testing.T) {
	versions := rowsOf(put("k", 5, "x"), put("k", 5, ""), del("k", 5), odd("k", 5, 0, "o"), odd("k", 5, -7, ""), put("k", 5, "x"), put("k", 5, "z"))
	for i, first := range versions {
		for _, second := range versions {
			isMerged(t, lists(rowsOf(first), rowsOf(second)), rowsOf(first))
			isMerged(t, lists(nil, rowsOf(first), nil, rowsOf(second), nil), rowsOf(first))
			isMerged(t, lists(rowsOf(put("a", 1, "")), rowsOf(first, put("z", 1, "")), rowsOf(put("b", 1, ""), second)), rowsOf(put("a", 1, ""), put("b", 1, ""), first, put("z", 1, "")))
			isMerged(t, lists(rowsOf(put("a", 9, ""), first), rowsOf(second), rowsOf(put("a", 8, ""), second)), rowsOf(put("a", 9, ""), put("a", 8, ""), first))
		}
		for n := range 40 {
			l := lists(rowsOf(first))
			for j := range n {
				l = append(l, rowsOf(versions[(i+j+1)%len(versions)]))
			}
			isMerged(t, l, rowsOf(first))
		}
	}
}

// P13.1: the first list is the first one for each place, whatever has been taken from it or from others.
func TestMergeFirstListOfMany(t *testing.T) {
	// Each list has all places from its own number on, so place i is in the lists 0 to i; and the other way round.
	const many = 40
	var rising, falling [][]api.Row
	var wantFalling []api.Row
	for i := range many {
		var up, down []api.Row
		for j := range many {
			r := put(fmt.Sprintf("%02d", j), 7, fmt.Sprint("list ", i))
			if j >= i {
				up = append(up, r)
			}
			if j >= many-1-i {
				down = append(down, r)
			}
		}
		rising, falling = append(rising, up), append(falling, down)
		wantFalling = append(wantFalling, put(fmt.Sprintf("%02d", i), 7, fmt.Sprint("list ", many-1-i)))
	}
	isMerged(t, rising, rising[0])
	isMerged(t, falling, wantFalling)
	for n := range many {
		isSlow(t, rising[n:])
		isSlow(t, append(slices.Clone(rising[n:]), rising[:n]...))
		isSlow(t, append(slices.Clone(falling[n:]), falling[:n]...))
	}
}

// P13.1: a place is a Key and a Seq, both of them: rows that have one in common stay.
func TestMergePlaces(t *testing.T) {
	isMerged(t, lists(rowsOf(put("a", 1, "x")), rowsOf(put("a", 2, "y"))), rowsOf(put("a", 2, "y"), put("a", 1, "x")))
	isMerged(t, lists(rowsOf(put("a", 1, "x")), rowsOf(put("b", 1, "x"))), rowsOf(put("a", 1, "x"), put("b", 1, "x")))
	isMerged(t, lists(rowsOf(put("b", 1, "x")), rowsOf(put("a", 1, "x"))), rowsOf(put("a", 1, "x"), put("b", 1, "x")))
	isMerged(t, lists(rowsOf(put("a", most, "")), rowsOf(put("a", 0, "")), rowsOf(put("a", 1<<63, ""))), rowsOf(put("a", most, ""), put("a", 1<<63, ""), put("a", 0, "")))
	isMerged(t, lists(rowsOf(put("aa", 1, "")), rowsOf(put("a", 1, ""))), rowsOf(put("a", 1, ""), put("aa", 1, "")))
	isMerged(t, lists(rowsOf(put("", 1, "")), rowsOf(put("", 2, "")), rowsOf(put("\x00", 1, ""))), rowsOf(put("", 2, ""), put("", 1, ""), put("\x00", 1, "")))
	isMerged(t, lists(rowsOf(put("\xff", 1, "")), rowsOf(put("\x7f", 1, "")), rowsOf(put("\x80", 1, ""))), rowsOf(put("\x7f", 1, ""), put("\x80", 1, ""), put("\xff", 1, "")))
	isMerged(t, lists(rowsOf(api.Row{}), rowsOf(api.Row{})), rowsOf(api.Row{}))
	isMerged(t, lists(rowsOf(api.Row{}), rowsOf(put("", 0, "x"), put("a", 0, "y"))), rowsOf(api.Row{}, put("a", 0, "y")))
	// The last row of one list and the first one of the next are of one key.
	isMerged(t, lists(rowsOf(put("a", 9, ""), put("b", 4, "x")), rowsOf(put("b", 3, "y"), put("c", 9, ""))), rowsOf(put("a", 9, ""), put("b", 4, "x"), put("b", 3, "y"), put("c", 9, "")))
	isMerged(t, lists(rowsOf(put("b", 3, "y"), put("c", 9, "")), rowsOf(put("a", 9, ""), put("b", 4, "x"))), rowsOf(put("a", 9, ""), put("b", 4, "x"), put("b", 3, "y"), put("c", 9, "")))
	// Rows of lists that alternate, and one list again and again.
	isMerged(t, lists(rowsOf(put("a", 1, ""), put("c", 1, ""), put("e", 1, "")), rowsOf(put("b", 1, ""), put("d", 1, ""), put("f", 1, ""))), rowsOf(put("a", 1, ""), put("b", 1, ""), put("c", 1, ""), put("d", 1, ""), put("e", 1, ""), put("f", 1, "")))
	isMerged(t, lists(three, three, three), three)
}

// P13.1 to P13.3: rows need not be valid: any Key, Seq, Kind and Value may stand in them, and comes back.
func TestRowsThatAreNotValid(t *testing.T) {
	long := strings.Repeat("k", 5000)
	l := rowsOf(odd("", most, -1, "x"), odd("", 0, 1<<40, ""), odd("a", 1<<60, 2, "a delete with a value"), put("a", 0, long), odd(long, 3, 0, long), put(long, 2, ""))
	isMerged(t, lists(l), l)
	isMerged(t, lists(l[3:], l[:3]), l)
	isMerged(t, lists(rowsOf(l[0], l[4]), rowsOf(l[1], l[5]), rowsOf(l[2], l[3])), l)
	isAt(t, l, 0, pairsOf("a", long))
	isAt(t, l, 2, pairsOf("a", long, long, ""))
	isAt(t, l, 3, pairsOf("a", long))
	isAt(t, l, 1<<60, nil)
	isDropped(t, l, []uint64{0, 1, 2}, false, l)
	isDropped(t, l, []uint64{2}, false, l)
	isDropped(t, l, []uint64{2}, true, rowsOf(l[2], l[3], l[4], l[5]))
	isDropped(t, l, nil, false, rowsOf(l[0], l[2], l[4]))
	isDropped(t, l, nil, true, nil)
}

// P13.2: the row that counts is the one of a key with the greatest Seq that is at most the number.
func TestAtNumbers(t *testing.T) {
	l := rowsOf(put("a", most, "i"), put("a", 1<<63, "h"), del("a", 1<<56), put("a", 300, "g"), put("a", 299, "f"), del("a", 7), del("a", 6), put("a", 4, ""), put("a", 0, "e"))
	for _, x := range []struct {
		from, upto uint64
		want       []api.Pair
	}{
		{0, 3, pairsOf("a", "e")}, {4, 5, pairsOf("a", "")}, {6, 6, nil}, {7, 7, nil}, {8, 298, nil}, {299, 299, pairsOf("a", "f")}, {300, 1<<56 - 1, pairsOf("a", "g")},
		{1 << 56, 1<<63 - 1, nil}, {1 << 63, most - 1, pairsOf("a", "h")}, {most, most, pairsOf("a", "i")},
	} {
		for _, n := range []uint64{x.from, x.from + (x.upto-x.from)/2, x.upto} {
			isAt(t, l, n, x.want)
			isAt(t, append(rowsOf(put("Z", 1, "z")), l...), max(n, 1), append(pairsOf("Z", "z"), x.want...))
			isAt(t, append(slices.Clone(l), put("aa", 0, "z")), n, append(slices.Clone(x.want), pairsOf("aa", "z")...))
		}
	}
}

// P13.2: a row that is no put counts as a delete, whatever its kind and its value; what it hides stays hidden.
func TestAtKinds(t *testing.T) {
	for _, kind := range []int{2, 0, 3, -1, 255, 257, 1<<16 + 1, 1<<32 + 1, -1 << 63, 1<<63 - 1} {
		l := rowsOf(odd("a", 5, kind, "hidden"), put("a", 3, "x"), put("b", 4, "y"), odd("b", 2, kind, ""), odd("c", 4, kind, "v"))
		isAt(t, l, most, pairsOf("b", "y"))
		isAt(t, l, 5, pairsOf("b", "y"))
		isAt(t, l, 4, pairsOf("a", "x", "b", "y"))
		isAt(t, l, 3, pairsOf("a", "x"))
		isAt(t, l, 2, nil)
	}
}

// P13.2: a key has a pair, or none, by itself: what its neighbours have doesn't matter.
func TestAtKeys(t *testing.T) {
	keys := []string{"", "\x00", "a", "a\x00", "aa", "b", "\x7f", "\x80", "\xff", "\xff\xff"}
	for hidden := range 1 << len(keys) {
		var l []api.Row
		var want []api.Pair
		for i, key := range keys {
			l = append(l, put(key, 9, "later"))
			if hidden>>i&1 == 1 {
				l = append(l, del(key, 5))
			} else {
				want = append(want, api.Pair{Key: key, Value: "now"})
			}
			l = append(l, put(key, 3, "now"), del(key, 2))
		}
		isAt(t, l, 6, want)
	}
}

// P13.3: a row stays if it is visible at one mark at least, or at the maximum number; the order of the marks, and marks that stand there again, don't matter.
func TestDropMarks(t *testing.T) {
	l := rowsOf(put("k", 9, "d"), put("k", 6, "c"), put("k", 4, "b"), put("k", 1, "a"))
	for _, x := range []struct {
		marks []uint64
		left  []int
	}{
		{nil, []int{0}},
		{[]uint64{0}, []int{0}},
		{[]uint64{1}, []int{0, 3}}, {[]uint64{2}, []int{0, 3}}, {[]uint64{3}, []int{0, 3}},
		{[]uint64{4}, []int{0, 2}}, {[]uint64{5}, []int{0, 2}},
		{[]uint64{6}, []int{0, 1}}, {[]uint64{8}, []int{0, 1}},
		{[]uint64{9}, []int{0}}, {[]uint64{10}, []int{0}}, {[]uint64{most}, []int{0}}, {[]uint64{most, most, 0, 9}, []int{0}},
		{[]uint64{1, 4}, []int{0, 2, 3}}, {[]uint64{5, 3}, []int{0, 2, 3}}, {[]uint64{4, 5, 4}, []int{0, 2}},
		{[]uint64{8, 1}, []int{0, 1, 3}}, {[]uint64{0, 8, most, 2, 2}, []int{0, 1, 3}},
		{[]uint64{6, 4}, []int{0, 1, 2}}, {[]uint64{7, 9, 5}, []int{0, 1, 2}},
		{[]uint64{8, 5, 3}, []int{0, 1, 2, 3}}, {[]uint64{1, 4, 6}, []int{0, 1, 2, 3}}, {[]uint64{3, 100, 8, 0, 5, most}, []int{0, 1, 2, 3}},
	} {
		var want []api.Row
		for _, i := range x.left {
			want = append(want, l[i])
		}
		for range 6 {
			isDropped(t, l, x.marks, false, want)
			isDropped(t, l, x.marks, true, want)
			x.marks = append(x.marks, x.marks...)
			if len(x.marks) > 0 {
				x.marks = append(x.marks[1:], x.marks[0])
			}
		}
	}
}

// P13.3: rows at the least and at the greatest numbers that there are.
func TestDropEnds(t *testing.T) {
	l := rowsOf(put("k", most, "c"), put("k", most-1, "b"), put("k", 1, "z"), put("k", 0, "a"))
	isDropped(t, l, nil, false, l[:1])
	isDropped(t, l, []uint64{most}, false, l[:1])
	isDropped(t, l, []uint64{most - 1}, false, l[:2])
	isDropped(t, l, []uint64{most - 2}, false, rowsOf(l[0], l[2]))
	isDropped(t, l, []uint64{1}, false, rowsOf(l[0], l[2]))
	isDropped(t, l, []uint64{0}, false, rowsOf(l[0], l[3]))
	isDropped(t, l, []uint64{0, most - 1}, true, rowsOf(l[0], l[1], l[3]))
	isDropped(t, l, []uint64{0, 1, most - 1}, true, l)
	isDropped(t, l[3:], nil, true, l[3:])
	isDropped(t, rowsOf(del("k", 0)), nil, false, rowsOf(del("k", 0)))
	isDropped(t, rowsOf(del("k", 0)), []uint64{0, most}, true, nil)
}

// P13.3: with bottom, of each key the last rows go up to the last put that stays, and not one that stands ahead of it.
func TestDropBottom(t *testing.T) {
	marks := []uint64{1, 2, 3, 4, 5}
	for _, x := range []struct{ kinds, left string }{
		{"d", ""}, {"dd", ""}, {"ddddd", ""}, {"p", "p"}, {"ppppp", "ppppp"},
		{"pd", "p"}, {"pdd", "p"}, {"pdddd", "p"}, {"dp", "dp"}, {"ddddp", "ddddp"}, {"dpd", "dp"}, {"ddpdd", "ddp"}, {"dpdpd", "dpdp"}, {"pdpdd", "pdp"}, {"ppdpd", "ppdp"},
		{"o", ""}, {"po", "p"}, {"op", "op"}, {"opo", "op"}, {"pdodo", "p"}, {"dodop", "dodop"}, {"odpod", "odp"},
	} {
		rowOf := func(key string, i int) api.Row {
			switch seq := uint64(5 - i); x.kinds[i] {
			case 'p':
				return put(key, seq, x.kinds)
			case 'd':
				return del(key, seq)
			default:
				return odd(key, seq, 3, "no put")
			}
		}
		var l, want []api.Row
		for _, key := range []string{"a", "b", "c"} {
			for i := range x.kinds {
				l = append(l, rowOf(key, i))
			}
			for i := range x.left {
				want = append(want, rowOf(key, i))
			}
			// Neighbours that stay as they are, or go.
			l = append(l, put(key+"+", 2, "stays"), del(key+"-", 2))
			want = append(want, put(key+"+", 2, "stays"))
		}
		isDropped(t, l, marks, true, want)
		isDropped(t, l, append(slices.Clone(marks), 0, most, 77), true, want)
		isDropped(t, l, marks, false, l)
	}
}

// P13.3: with bottom, what counts is the last row that remains: one that is no put goes even if a put behind it is not visible, and stays if that is visible at a mark.
func TestDropBottomBehindMarks(t *testing.T) {
	l := rowsOf(put("k", 9, "new"), del("k", 6), put("k", 4, "old"), del("k", 2))
	isDropped(t, l, nil, true, l[:1])
	isDropped(t, l, []uint64{6}, true, l[:1])
	isDropped(t, l, []uint64{6}, false, l[:2])
	isDropped(t, l, []uint64{5}, true, rowsOf(l[0], l[2]))
	isDropped(t, l, []uint64{8, 5}, true, l[:3])
	isDropped(t, l, []uint64{8, 3}, true, l[:1])
	isDropped(t, l, []uint64{8, 3}, false, rowsOf(l[0], l[1], l[3]))
	isDropped(t, l, []uint64{2, 5}, true, rowsOf(l[0], l[2]))
	isDropped(t, l, []uint64{2, 5}, false, rowsOf(l[0], l[2], l[3]))
	isDropped(t, l[1:], nil, true, nil)
	isDropped(t, l[1:], []uint64{3}, true, nil)
	isDropped(t, l[1:], []uint64{3, 4}, true, l[1:3])
}

// P13.3: a mark is one for all keys, and each key's rows are visible by themselves.
func TestDropKeys(t *testing.T) {
	l := rowsOf(put("", 4, ""), put("", 2, ""), put("a", 9, ""), put("a", 3, ""), put("a", 2, ""), put("a\x00", 5, ""), put("aa", 3, ""), put("aa", 1, ""), put("b", 1, ""), put("b", 0, ""))
	isDropped(t, l, nil, false, rowsOf(l[0], l[2], l[5], l[6], l[8]))
	isDropped(t, l, []uint64{3}, false, rowsOf(l[0], l[1], l[2], l[3], l[5], l[6], l[8]))
	isDropped(t, l, []uint64{2}, false, rowsOf(l[0], l[1], l[2], l[4], l[5], l[6], l[7], l[8]))
	isDropped(t, l, []uint64{0}, false, rowsOf(l[0], l[2], l[5], l[6], l[8], l[9]))
	isDropped(t, l, []uint64{3, 2, 0}, false, l)
}

// shares tells whether two strings lie in the same memory.
func shares(a, b string) bool {
	if a == "" || b == "" {
		return false
	}
	p, q := uintptr(unsafe.Pointer(unsafe.StringData(a))), uintptr(unsafe.Pointer(unsafe.StringData(b)))
	return p < q+uintptr(len(b)) && q < p+uintptr(len(a))
}

// The rules that hold everywhere: a result is new memory, and shares none with an argument, with another result, or within itself.
func TestNewMemory(t *testing.T) {
	text := strings.Clone("a key, and a value of words")
	l := rowsOf(put(text[:5], 9, text[3:]), put(text[:5], 7, text), put(text, 8, text[2:]), put(text, 5, text[:5]))
	seen := []string{text}
	take := func(rows []api.Row, want int) {
		if len(rows) != want {
			t.Errorf("%s, want %d", told(rows), want)
		}
		for _, r := range rows {
			seen = append(seen, r.Key, r.Value)
		}
		for i := range rows {
			rows[i] = api.Row{}
		}
		_ = append(rows, put("behind", 1, ""))
	}
	for range 2 {
		take(merged(t, l), 4)
		take(merged(t, l[1:2], l, l[2:]), 4)
		take(dropped(t, l, nil, true), 2)
		take(dropped(t, l, nil, false), 2)
		take(dropped(t, l, []uint64{7, 5}, false), 4)
		take(dropped(t, l, []uint64{7, 5}, true), 4)
		for _, n := range []uint64{7, 8, most} {
			for _, p := range at(t, l, n) {
				seen = append(seen, p.Key, p.Value)
			}
		}
	}
	if want := 1 + 2*2*(4+4+2+2+4+4+2+2+2); len(seen) != want {
		t.Errorf("%d strings, want %d", len(seen), want)
	}
	for i, s := range seen {
		for _, u := range seen[:i] {
			if shares(s, u) {
				t.Fatalf("%q shares memory with %q", s, u)
			}
		}
	}
	if !slices.Equal(l, rowsOf(put("a key", 9, "ey, and a value of words"), put("a key", 7, text), put(text, 8, "key, and a value of words"), put(text, 5, "a key"))) {
		t.Errorf("what was done to the results changed the arguments: %s", told(l))
	}
}

// The rules that hold everywhere: arguments are not changed, nor is what stands behind them in their memory.
func TestArgumentsStay(t *testing.T) {
	for seed := range uint64(300) {
		random := source(seed)
		memory := someRows(random, 30)
		marks := someMarks(random, memory, 8)
		oldMemory, oldMarks := slices.Clone(memory), slices.Clone(marks)
		n, k := random.IntN(len(memory)+1), random.IntN(len(marks)+1)
		isSame := func(what string) {
			if !slices.Equal(memory, oldMemory) || !slices.Equal(marks, oldMarks) {
				t.Fatalf("seed %d: behind %s the arguments are %s, %d, not %s, %d", seed, what, told(memory), marks, told(oldMemory), oldMarks)
			}
		}
		l := [][]api.Row{memory[:n], memory[n/2:], nil, memory}
		oldLists := slices.Clone(l)
		merge.Merge(l[:3])
		isSame("Merge")
		merge.Merge(l)
		isSame("Merge")
		for i := range l {
			if len(l[i]) != len(oldLists[i]) || unsafe.SliceData(l[i]) != unsafe.SliceData(oldLists[i]) {
				t.Fatalf("seed %d: list %d is another one", seed, i)
			}
		}
		merge.At(memory[:n], 7)
		isSame("At")
		merge.Drop(memory[:n], marks[:k], false)
		isSame("Drop")
		merge.Drop(memory[:n], marks[:k], true)
		isSame("Drop with bottom")
	}
}

// The rules that hold everywhere: no result depends on an argument's memory afterwards.
func TestNothingKept(t *testing.T) {
	key, value := []byte("bcd"), []byte("value")
	l := rowsOf(put(unsafe.String(&key[0], 3), 4, unsafe.String(&value[0], 5)), put(unsafe.String(&key[0], 3), 2, ""))
	rows, left, pairs := merged(t, l), dropped(t, l, []uint64{2}, true), at(t, l, 4)
	key[0], value[0], l[1] = 'x', 'x', put("z", 9, "")
	want := rowsOf(put("bcd", 4, "value"), put("bcd", 2, ""))
	if !slices.Equal(rows, want) || !slices.Equal(left, want) || !slices.Equal(pairs, pairsOf("bcd", "value")) {
		t.Errorf("%s; %s; %q", told(rows), told(left), pairs)
	}
}

// P2: the same calls return the same again.
func TestSameAgain(t *testing.T) {
	random := source(2)
	l := dealt(random, someRows(random, 60), 5)
	l = append(l, someRows(random, 30), someRows(random, 30))
	rows := merged(t, l...)
	marks := someMarks(random, rows, 4)
	left, pairs := dropped(t, rows, marks, true), at(t, rows, 255)
	for range 20 {
		if !slices.Equal(merged(t, l...), rows) || !slices.Equal(dropped(t, rows, marks, true), left) || !slices.Equal(at(t, rows, 255), pairs) {
			t.Fatal("another result of the same call")
		}
	}
}

// manyRows returns n rows that are in order.
func manyRows(n int) []api.Row {
	l := make([]api.Row, n)
	for i := range l {
		l[i] = put(fmt.Sprintf("%08d", i/2), uint64(2-i%2), "v")
	}
	return l
}

// P1, P13.1 to P13.3: many rows, lists, keys, versions and marks, of each so many that a call that takes their square wouldn't end.
func TestMany(t *testing.T) {
	const many = 1 << 18
	all := manyRows(many)
	var each [][]api.Row
	for i := range all {
		each = append(each, all[i:i+1:i+1])
	}
	random := source(1)
	random.Shuffle(many, func(i, j int) { each[i], each[j] = each[j], each[i] })
	for what, l := range map[string][][]api.Row{"one list": lists(all), "the list twice": lists(all, all), "lists of one row": each, "64 lists": dealt(random, all, 64), "halves": lists(all[many/2:], all[:many/2])} {
		if !slices.Equal(merged(t, l...), all) {
			t.Errorf("%s: Merge returns others", what)
		}
	}
	if n := len(at(t, all, 1)); n != many/2 {
		t.Errorf("At has %d pairs", n)
	}
	var versions, half []api.Row
	var marks []uint64
	for i := range many {
		r := put("k", uint64(many-i), "v")
		versions = append(versions, r)
		if i%2 == 0 {
			half = append(half, r)
			marks = append(marks, r.Seq, r.Seq)
		}
	}
	random.Shuffle(len(marks), func(i, j int) { marks[i], marks[j] = marks[j], marks[i] })
	if !slices.Equal(dropped(t, versions, marks, true), half) || !slices.Equal(dropped(t, all, marks, false), dropped(t, all, []uint64{2}, false)) {
		t.Error("Drop leaves others")
	}
	for i := range versions {
		versions[i].Kind = 2
	}
	if l := dropped(t, versions, marks, true); len(l) != 0 {
		t.Errorf("Drop leaves %s", told(l))
	}
	if l := at(t, versions, 1); len(l) != 0 {
		t.Errorf("At has %q", l)
	}
}
