package block_test

import (
	"encoding/hex"
	"fmt"
	"math"
	"slices"
	"strings"
	"testing"
	"unsafe"

	"freshet/api"
	"freshet/block"
)

// three are the rows of the chapter's first example.
var three = []api.Row{put("ab", 2, "x"), del("ab", 1), put("b", 1, "")}

// P11.2, P11.3: the chapter's examples.
func TestExamples(t *testing.T) {
	first := "\x00\x02ab\x02\x01\x01x" + "\x02\x00\x01\x02" + "\x00\x01b\x01\x01\x00" + "\x00\x00\x00\x00" + "\x01\x00\x00\x00" + "\x10\x00\x00\x00"
	if s, e := block.Build(three, 16); s != first || e != api.OK {
		t.Errorf("Build of the first example: % x, %v", s, e)
	}
	if s, e := block.Build(nil, 1); s != "\x00\x00\x00\x00\x01\x00\x00\x00" || e != api.OK {
		t.Errorf("Build(none, 1): % x, %v", s, e)
	}
	isNotBuilt(t, "b ahead of a", []api.Row{put("b", 1, ""), put("a", 1, "")}, 1, api.ErrArg)
	isNotBuilt(t, "a twice", []api.Row{put("a", 1, ""), put("a", 1, "")}, 1, api.ErrArg)
	isNotBuilt(t, "none", nil, 65, api.ErrArg)
	isNotBuilt(t, "a 0", []api.Row{put("a", 0, "")}, 1, api.ErrArg)
	isNone(t, "empty", "")
	isNone(t, "eight bytes 00", strings.Repeat("\x00", 8))
	if l, e := block.Seek(first, "ab", 1); !slices.Equal(l, three[1:]) || e != api.OK {
		t.Errorf("Seek(the first one, ab, 1): %s, %v", told(l), e)
	}
}

// P11.1: kinds, those beside them, and those of which a byte or a few would be one.
func TestCheckKinds(t *testing.T) {
	for _, kind := range []int{0, 1, 2, 3, 4, -1, -2, -3, 127, 128, 255, 256, 257, 258, 1<<16 + 1, 1<<16 + 2, 1<<32 + 1, 1<<32 + 2, 1 << 62, -255, -254, math.MaxInt, math.MinInt, math.MinInt + 1, math.MinInt + 2} {
		want := api.ErrArg
		if kind == 1 || kind == 2 {
			want = api.OK
		}
		isCheck(t, api.Row{Key: "a", Seq: 1, Kind: kind}, want)
		if kind != 1 {
			want = api.ErrArg
		}
		isCheck(t, api.Row{Key: "a", Seq: 1, Kind: kind, Value: "x"}, want)
	}
}

// P11.1: numbers, about each power of 2.
func TestCheckSeqs(t *testing.T) {
	seqs := []uint64{0, 1, 2, 1<<56 - 64, 1<<56 - 2, 1<<56 - 1, 1 << 56, 1<<56 + 1, math.MaxUint64 - 1, math.MaxUint64}
	for i := range 64 {
		seqs = append(seqs, 1<<i-1, 1<<i, 1<<i+1)
	}
	for _, seq := range seqs {
		want := api.ErrArg
		if seq >= 1 && seq <= 72057594037927935 {
			want = api.OK
		}
		isCheck(t, put("a", seq, "x"), want)
		isCheck(t, put("a", seq, ""), want)
		isCheck(t, del("a", seq), want)
	}
}

// P11.1: lengths of keys and of values, at and beside the limits.
func TestCheckLengths(t *testing.T) {
	for n, want := range map[int]api.Errno{0: api.ErrArg, 1: api.OK, 2: api.OK, 127: api.OK, 128: api.OK, 519: api.OK, 520: api.OK, 521: api.ErrLong, 522: api.ErrLong, 1032: api.ErrLong, 1 << 16: api.ErrLong, 1<<16 + 1: api.ErrLong} {
		isCheck(t, put(fill(n, 'k'), 1, "x"), want)
		isCheck(t, put(fill(n, 'k'), 1<<56-1, ""), want)
		isCheck(t, del(fill(n, 0), 1), want)
	}
	for n, want := range map[int]api.Errno{0: api.OK, 1: api.OK, 127: api.OK, 128: api.OK, 520: api.OK, 521: api.OK, 2047: api.OK, 2048: api.OK, 2049: api.ErrLong, 2050: api.ErrLong, 4096: api.ErrLong, 1 << 16: api.ErrLong, 1<<16 + 1: api.ErrLong} {
		isCheck(t, put("a", 1, fill(n, 'v')), want)
		isCheck(t, put(fill(520, 'k'), 1, fill(n, 'v')), want)
		isCheck(t, put(fill(521, 'k'), 1, fill(n, 'v')), api.ErrLong)
	}
}

// P11.1: a length that is too great comes behind every other reason.
func TestCheckArgFirst(t *testing.T) {
	long, value := fill(521, 'k'), fill(2049, 'v')
	for _, r := range []api.Row{
		{Key: long, Seq: 1, Kind: 0}, {Key: long, Seq: 1, Kind: 3}, {Key: long, Seq: 0, Kind: 1}, {Key: long, Seq: 1 << 56, Kind: 1}, {Key: long, Seq: 1, Kind: 2, Value: "x"},
		{Key: "a", Seq: 1, Kind: 0, Value: value}, {Key: "a", Seq: 1, Kind: 2, Value: value}, {Key: "", Seq: 1, Kind: 1, Value: value}, {Key: "a", Seq: 0, Kind: 1, Value: value}, {Key: "a", Seq: 1 << 56, Kind: 1, Value: value},
		{Key: long, Seq: 1, Kind: 2, Value: value}, {},
	} {
		isCheck(t, r, api.ErrArg)
	}
	isCheck(t, put(long, 1, value), api.ErrLong)
	isCheck(t, del(long, 1), api.ErrLong)
}

// isCheck tests what Check answers, and that Build refuses a row that is not valid.
func isCheck(t *testing.T, r api.Row, want api.Errno) {
	t.Helper()
	if e := block.Check(r); e != want {
		t.Errorf("Check of %s: %v, want %v", told([]api.Row{r}), e, want)
	}
	if e := slowCheck(r); e != want {
		t.Errorf("the test's own Check of %s: %v, want %v", told([]api.Row{r}), e, want)
	}
	if isBuilt(t, []api.Row{r}, 1) != (want == api.OK) {
		t.Errorf("Build of %s, want %v", told([]api.Row{r}), want)
	}
}

// P11.1: all pairs of these places, which are listed in order: a smaller key, and of one key the greater number, comes first.
func TestOrderOfTwo(t *testing.T) {
	var l []api.Row
	for _, key := range []string{"", "\x00", "\x00\x00", "\x01", "a", "a\x00", "aa", "aaa", "ab", "b", "\x7f", "\x80", "\xff", "\xff\xff"} {
		for _, seq := range []uint64{math.MaxUint64, 1 << 63, 1 << 56, 256, 255, 2, 1, 0} {
			l = append(l, put(key, seq, ""))
		}
	}
	for i, a := range l {
		for j, b := range l {
			if got, want := block.Order([]api.Row{a, b}), i < j; got != want {
				t.Errorf("Order of %s: %v, want %v", told([]api.Row{a, b}), got, want)
			}
		}
	}
	if !block.Order(l) {
		t.Error("all of them are not in order")
	}
}

// P11.1: lists of any length, in which two rows change places, or one stands twice, anywhere.
func TestOrderOfMany(t *testing.T) {
	for _, l := range [][]api.Row{nil, {}, {{}}, {put("b", 3, "")}, {{Key: "", Seq: 0, Kind: -1, Value: "x"}}} {
		if !block.Order(l) {
			t.Errorf("%s are not in order", told(l))
		}
	}
	for _, n := range []int{2, 3, 4, 5, 16, 17, 100} {
		l := manyRows(n)
		if !block.Order(l) {
			t.Errorf("%d rows are not in order", n)
		}
		for i := range n - 1 {
			x := slices.Clone(l)
			x[i], x[i+1] = x[i+1], x[i]
			if block.Order(x) || slowOrder(x) {
				t.Errorf("%d rows are in order, of which two have changed places at %d", n, i)
			}
			x = slices.Clone(l)
			x[i+1] = x[i]
			if block.Order(x) {
				t.Errorf("%d rows are in order, of which one stands twice at %d", n, i)
			}
			isNotBuilt(t, "one row twice", x, 16, api.ErrArg)
		}
	}
	if !block.Order(manyRows(100000)) {
		t.Error("100000 rows are not in order")
	}
}

// P11.1: rows that are not valid have an order, too, and what stands beside the place has no part in it.
func TestOrderOfAnyRows(t *testing.T) {
	a := api.Row{Key: "", Seq: math.MaxUint64, Kind: 7, Value: fill(3000, 'v')}
	b := api.Row{Key: "", Seq: 0, Kind: -1}
	c := api.Row{Key: fill(2000, 'k'), Seq: 0, Kind: 2, Value: "x"}
	if !block.Order([]api.Row{a, b, c}) || block.Order([]api.Row{b, a, c}) || block.Order([]api.Row{a, c, b}) {
		t.Error("Order of rows that are not valid")
	}
	for _, twin := range []api.Row{{Key: "a", Seq: 5, Kind: 1, Value: "x"}, {Key: "a", Seq: 5, Kind: 2}, {Key: "a", Seq: 5, Kind: 1, Value: "z"}, {Key: "a", Seq: 5, Kind: 1}} {
		if block.Order([]api.Row{put("a", 5, "y"), twin}) {
			t.Errorf("Order of a 5 and %s", told([]api.Row{twin}))
		}
		isNotBuilt(t, "one place twice", []api.Row{put("a", 5, "y"), twin}, 16, api.ErrArg)
	}
}

// P11.2: blocks whose bytes were worked out by other means.
func TestBuildKnown(t *testing.T) {
	k := strings.Repeat("6b", 200)
	for _, x := range []struct {
		rows    []api.Row
		restart int
		want    string
	}{
		{nil, 64, "0000000040000000"},
		{[]api.Row{put("a", 1, "")}, 1, "000161010100000000000100000001000000"},
		{[]api.Row{del("a", 1)}, 64, "0001610102000000000100000040000000"},
		{[]api.Row{put("a", 300, "xyz")}, 2, "000161ac02010378797a000000000100000002000000"},
		{three, 1, "000261620201017800026162010200016201010000000000080000000e0000000300000001000000"},
		{three, 2, "000261620201017802000102000162010100000000000c0000000200000002000000"},
		{[]api.Row{put("a", 1<<56-1, "x"), del("a", 1<<56-2), put("a", 128, "y"), put("a", 127, "z")}, 3,
			"000161ffffffffffffff7f0101780100feffffffffffff7f02010080010101790001617f01017a00000000200000000200000003000000"},
		{[]api.Row{put("\x00", 1, "\x00"), put("\x00\x00", 1, ""), del("\x00\xff", 1), put("\xff", 9, "\xff")}, 64,
			"000100010101000101000101000101ff01020001ff090101ff000000000100000040000000"},
		{[]api.Row{put("abcd", 1, ""), put("abce", 1, ""), put("abcef", 1, ""), put("abd", 1, ""), put("b", 1, ""), del("bbb", 1)}, 4,
			"000461626364010100030165010100040166010100020164010100000162010100010262620102000000001b0000000200000004000000"},
		{[]api.Row{put(fill(200, 'k')+"a", 1, fill(130, 'v')), del(fill(200, 'k')+"b", 1)}, 16,
			"00c901" + k + "6101018201" + strings.Repeat("76", 130) + "c80101620102" + "000000000100000010000000"},
	} {
		if s := built(t, x.rows, x.restart); hex.EncodeToString([]byte(s)) != x.want {
			t.Errorf("Build of %s with %d: %x, want %s", told(x.rows), x.restart, s, x.want)
		}
		isBuilt(t, x.rows, x.restart)
	}
}

// P11.2: restart intervals, those that may be and those beside them, for which nothing else matters.
func TestBuildRestarts(t *testing.T) {
	many := manyRows(150)
	for restart := 1; restart <= 64; restart++ {
		for _, n := range []int{0, 1, 2, 3, restart - 1, restart, restart + 1, 2*restart - 1, 2 * restart, 2*restart + 1, 150} {
			isBuilt(t, many[:n], restart)
		}
	}
	for _, restart := range []int{0, -1, 65, 66, -64, 128, 255, 256, 257, 1<<16 + 1, 1 << 31, 1<<32 + 1, math.MaxInt, math.MinInt, math.MinInt + 1} {
		for _, l := range [][]api.Row{nil, {}, three, many, manyRows(1025), {put(fill(521, 'k'), 1, "")}} {
			isNotBuilt(t, "a restart interval that may not be", l, restart, api.ErrArg)
		}
	}
}

// P11.2: numbers of rows, at and beside the limit.
func TestBuildNumbersOfRows(t *testing.T) {
	for n, want := range map[int]bool{1022: true, 1023: true, 1024: true, 1025: false, 1026: false, 2048: false, 5000: false} {
		for _, restart := range []int{1, 2, 16, 63, 64} {
			if l := manyRows(n); isBuilt(t, l, restart) != want {
				t.Errorf("Build of %d rows with %d", n, restart)
			}
		}
	}
	isNotBuilt(t, "many", manyRows(1025), 64, api.ErrLong)
	isNotBuilt(t, "very many", manyRows(100000), 1, api.ErrLong)
	var one []api.Row
	for i := range 1025 {
		one = append(one, del("k", uint64(2000-i)))
	}
	isNotBuilt(t, "rows of one key", one, 64, api.ErrLong)
	isBuilt(t, one[1:], 64)
	isBuilt(t, one[:1024], 1)
}

// P11.2: lengths of keys and values in a block, and what one key shares with another.
func TestBuildLengths(t *testing.T) {
	for _, n := range []int{1, 2, 126, 127, 128, 129, 255, 256, 257, 519, 520, 521, 522, 1000} {
		key := fill(n, 'k')
		isBuilt(t, []api.Row{put(key, 1, "x")}, 16)
		isBuilt(t, []api.Row{put("a", 1, "x"), put(key, 1, "x")}, 16)
		isBuilt(t, []api.Row{put(key, 2, "x"), del(key, 1)}, 16)
		isBuilt(t, []api.Row{put(key, 2, "x"), put(key+"a", 1, ""), put(key+"b", 1, "")}, 16)
		isBuilt(t, []api.Row{put(key[:n/2]+"a", 2, "x"), del(key, 1), put("z", 1, "")}, 16)
	}
	for _, n := range []int{0, 1, 127, 128, 129, 255, 256, 2047, 2048, 2049, 4096} {
		isBuilt(t, []api.Row{put("a", 1, fill(n, 'v'))}, 1)
		isBuilt(t, []api.Row{put("a", 1, "x"), put("b", 1, fill(n, 'v')), del("c", 1)}, 2)
	}
	isNotBuilt(t, "a long key", []api.Row{put("a", 1, "x"), put(fill(521, 'k'), 1, ""), del("l", 1)}, 2, api.ErrLong)
	isNotBuilt(t, "a long key of a delete", []api.Row{put("a", 1, "x"), del(fill(521, 'k'), 1)}, 2, api.ErrLong)
	isNotBuilt(t, "a long value", []api.Row{put("a", 1, "x"), put("b", 1, fill(2049, 'v')), del("l", 1)}, 2, api.ErrLong)
	isNotBuilt(t, "a very long value", []api.Row{put("a", 1, fill(1<<20, 'v'))}, 2, api.ErrLong)
}

// exact returns rows whose block has so many bytes.
func exact(size, restart int) []api.Row {
	var l []api.Row
	left := func() int { return size - len(slowBlock(l, restart)) }
	for left() > 2200 {
		l = append(l, put(string([]byte{'k', byte(len(l))}), 1, fill(2048, 'v')))
	}
	l = append(l, put("l", 1, fill(200, 'v')))
	for left() > 0 {
		l[len(l)-1].Value += fill(left(), 'v')
	}
	return l
}

// P11.2, P11.3: blocks of exactly 65536 bytes, and of one more.
func TestBuildLongestBlock(t *testing.T) {
	for _, restart := range []int{1, 2, 16, 64} {
		for _, size := range []int{65534, 65535, 65536} {
			l := exact(size, restart)
			if s := built(t, l, restart); len(s) != size {
				t.Fatalf("a block of %d bytes, not of %d", len(s), size)
			}
			isBuilt(t, l, restart)
		}
		for _, size := range []int{65537, 65538, 65544, 65600, 70000} {
			l := exact(size, restart)
			if s := slowBlock(l, restart); len(s) != size {
				t.Fatalf("a block of %d bytes, not of %d", len(s), size)
			}
			isNotBuilt(t, "a long block", l, restart, api.ErrLong)
			isNone(t, "a long block", slowBlock(l, restart))
		}
	}
	var greatest []api.Row
	for i := range 1024 {
		greatest = append(greatest, put(string([]byte{byte(i / 256), byte(i)})+fill(518, 'k'), 1<<56-1, fill(2048, 'v')))
	}
	isNotBuilt(t, "the greatest rows", greatest, 1, api.ErrLong)
	isNotBuilt(t, "the greatest rows", greatest, 64, api.ErrLong)
}

// P11.2: every cause of ErrArg, in any row, comes ahead of every cause of ErrLong, in any row.
func TestBuildArgFirst(t *testing.T) {
	longs := map[string][]api.Row{
		"a long key ahead":    {put(fill(521, 'a'), 9, ""), put("b", 9, ""), put("c", 9, ""), put("d", 9, "")},
		"a long key behind":   {put("b", 9, ""), put("c", 9, ""), put("d", 9, ""), put(fill(521, 'e'), 9, "")},
		"a long value ahead":  {put("a", 9, fill(2049, 'v')), put("b", 9, ""), put("c", 9, ""), put("d", 9, "")},
		"a long value behind": {put("b", 9, ""), put("c", 9, ""), put("d", 9, ""), put("e", 9, fill(2049, 'v'))},
		"many rows":           manyRows(1025),
		"a long block":        exact(70000, 4),
	}
	for what, l := range longs {
		isNotBuilt(t, what, l, 4, api.ErrLong)
		isNotBuilt(t, what, l, 0, api.ErrArg)
		isNotBuilt(t, what, l, 65, api.ErrArg)
		for _, i := range []int{0, 1, len(l) / 2, len(l) - 2, len(l) - 1} {
			for reason, change := range map[string]func(r *api.Row){
				"kind 0":               func(r *api.Row) { r.Kind = 0 },
				"kind 3":               func(r *api.Row) { r.Kind = 3 },
				"number 0":             func(r *api.Row) { r.Seq = 0 },
				"number 2^56":          func(r *api.Row) { r.Seq = 1 << 56 },
				"a delete with values": func(r *api.Row) { r.Kind, r.Value = 2, r.Value+"x" },
				"no key":               func(r *api.Row) { r.Key = "" },
				"the key of the first": func(r *api.Row) { r.Key, r.Seq = "a", 1 },
			} {
				x := slices.Clone(l)
				change(&x[i])
				if reason == "the key of the first" && (i == 0 || what == "a long key ahead" || what == "a long value ahead" && i == 1) {
					continue
				}
				isNotBuilt(t, fmt.Sprint(what, ", ", reason, " at ", i), x, 4, api.ErrArg)
			}
		}
	}
}

// P11.3: a block that is cut anywhere, or has a byte more, is none.
func TestRowsCut(t *testing.T) {
	for _, l := range [][]api.Row{nil, three, three[:1], manyRows(20), {put("k", 3, fill(300, 'v')), put("k", 2, fill(2048, 0)), del("kk", 1)}} {
		for _, restart := range []int{1, 2, 3, 16, 64} {
			s := built(t, l, restart)
			for i := range s {
				if i > 100 && i < len(s)-100 && i%7 > 0 {
					continue
				}
				isNone(t, "a start", s[:i])
				isRead(t, s[i:])
			}
			for c := range 256 {
				isNone(t, "a byte more", s+string([]byte{byte(c)}))
			}
			isNone(t, "a byte ahead", "\x00"+s)
			isNone(t, "twice", s+s)
			isNone(t, "zeros", s+fill(8, 0))
		}
	}
}

// P11.3, P11.4: blocks of which one byte is another one, whichever; those of a short one in twos.
func TestRowsEveryByte(t *testing.T) {
	lists := [][]api.Row{
		nil, three, {del("a", 1)}, {put("a", 2, ""), put("ab", 1, ""), del("abc", 130), del("abc", 129)},
		{put("\x00\x00", 1, "\x00\x01"), del("\x00\x01", 300), put("\x01", 1, ""), put("\x02\x01", 1<<56-1, "\x00")},
	}
	blocks := 0
	for _, l := range lists {
		for _, restart := range []int{1, 2, 3, 64} {
			s := []byte(built(t, l, restart))
			for i, was := range s {
				for c := range 256 {
					s[i] = byte(c)
					if isRead(t, string(s), api.Row{Key: "ab", Seq: 1}) {
						blocks++
					}
				}
				s[i] = was
			}
		}
	}
	if blocks < 5000 {
		t.Errorf("only %d of them were blocks", blocks)
	}
	s := []byte(built(t, []api.Row{put("a", 2, ""), del("a", 1)}, 2))
	for i := range s {
		for j := range i {
			for _, c := range []byte{0, 1, 2, 3, 4, 97, 98, 128, 255} {
				for _, d := range []byte{0, 1, 2, 3, 4, 97, 98, 128, 255} {
					x := slices.Clone(s)
					x[i], x[j] = c, d
					isRead(t, string(x))
				}
			}
		}
	}
}

// P11.3: bytes that would be rows, but for one rule each.
func TestRowsRules(t *testing.T) {
	two := four(0) + four(1) + four(2)
	wrong := map[string]string{
		"a key that shares less than it could":       "\x00\x02ab\x01\x02" + "\x01\x02bc\x01\x02" + two,
		"a key that shares nothing, though it could": "\x00\x02ab\x01\x02" + "\x00\x03abc\x01\x02" + two,
		"a key that shares more than there is":       "\x00\x02ab\x01\x02" + "\x03\x01c\x01\x02" + two,
		"a key that shares very much":                "\x00\x02ab\x01\x02" + short(1<<63) + "\x01c\x01\x02" + two,
		"a key that shares 2^64 - 1":                 "\x00\x02ab\x01\x02" + short(1<<64-1) + "\x01c\x01\x02" + two,
		"a restart that shares":                      "\x00\x02ab\x01\x02" + "\x01\x01c\x01\x02" + four(0) + four(6) + four(2) + four(1),
		"a first row that shares":                    "\x01\x01a\x01\x02" + two,
		"a shared number of two bytes":               "\x80\x00\x02ab\x01\x02" + two,
		"a length of two bytes":                      "\x00\x82\x00ab\x01\x02" + two,
		"a number of the row of two bytes":           "\x00\x02ab\x81\x00\x02" + two,
		"a length of the value of two bytes":         "\x00\x02ab\x01\x01\x81\x00x" + two,
		"kind 0":                                     "\x00\x02ab\x01\x00" + two,
		"kind 3":                                     "\x00\x02ab\x01\x03" + two,
		"kind 3 with a value":                        "\x00\x02ab\x01\x03\x01x" + two,
		"kind 255":                                   "\x00\x02ab\x01\xff" + two,
		"kind 129":                                   "\x00\x02ab\x01\x81\x01x" + two,
		"kind 130":                                   "\x00\x02ab\x01\x82" + two,
		"a delete with no value's length":            "\x00\x02ab\x01\x02\x00" + two,
		"a delete with a value":                      "\x00\x02ab\x01\x02\x01x" + two,
		"no key":                                     "\x00\x00\x01\x02" + two,
		"number 0":                                   "\x00\x02ab\x00\x02" + two,
		"number 2^56":                                "\x00\x02ab" + short(1<<56) + "\x02" + two,
		"number 2^64 - 1":                            "\x00\x02ab" + short(1<<64-1) + "\x02" + two,
		"a row of the same key without its length, as a number above 520 follows":          "\x00\x02ab" + short(1000) + "\x02" + "\x02" + short(999) + "\x02" + two,
		"a row of the same key without its length, as a number above what is left follows": "\x00\x02ab\x09\x02" + "\x02\x08\x02" + two,
		"a put of the same key without its length, as a number above what is left follows": "\x00\x02ab\x09\x02" + "\x02\x08\x01\x01x" + two,
		"a key of 521 bytes":                                  "\x00" + field(fill(521, 'k')) + "\x01\x02" + two,
		"a key of 521 bytes, of which 520 are shared":         "\x00" + field(fill(520, 'k')) + "\x01\x02" + short(520) + "\x01k\x01\x02" + two,
		"a key of 1040 bytes, of which 520 are shared":        "\x00" + field(fill(520, 'k')) + "\x01\x02" + short(520) + field(fill(520, 'k')) + "\x01\x02" + two,
		"a value of 2049 bytes":                               "\x00\x01a\x01\x01" + field(fill(2049, 'v')) + two,
		"the same row twice":                                  "\x00\x02ab\x01\x02" + "\x02\x00\x01\x02" + two,
		"the same key with a greater number":                  "\x00\x02ab\x01\x02" + "\x02\x00\x02\x02" + two,
		"a key that is less":                                  "\x00\x02ab\x01\x02" + "\x01\x01a\x01\x02" + two,
		"a key that is shorter":                               "\x00\x02ab\x01\x02" + "\x01\x00\x01\x02" + two,
		"a restart that is less":                              "\x00\x02ab\x01\x02" + "\x00\x02aa\x01\x02" + four(0) + four(6) + four(2) + four(1),
		"a restart that is the same":                          "\x00\x02ab\x01\x02" + "\x00\x02ab\x01\x02" + four(0) + four(6) + four(2) + four(1),
		"no restart":                                          "\x00\x02ab\x01\x02" + four(0) + four(2),
		"a restart of no row":                                 four(0) + two[4:],
		"one restart too few":                                 "\x00\x02ab\x01\x02" + "\x00\x02ac\x01\x02" + four(0) + four(1) + four(1),
		"one restart too many":                                "\x00\x02ab\x01\x02" + four(0) + four(6) + four(2) + four(1),
		"a restart that stands twice":                         "\x00\x02ab\x01\x02" + four(0) + four(0) + four(2) + four(1),
		"an offset that is another one":                       "\x00\x02ab\x01\x02" + four(1) + four(1) + four(2),
		"an offset below 0":                                   "\x00\x02ab\x01\x02" + four(-1) + four(1) + four(2),
		"an offset of other byte order":                       "\x00\x02ab\x01\x02" + "\x00\x02ac\x01\x02" + four(0) + "\x00\x00\x00\x06" + four(2) + four(1),
		"an offset of 2^24 more":                              "\x00\x02ab\x01\x02" + four(1<<24) + four(1) + four(2),
		"offsets that have changed places":                    "\x00\x02ab\x01\x02" + "\x00\x02ac\x01\x02" + four(6) + four(0) + four(2) + four(1),
		"a number of restarts of other byte order":            "\x00\x02ab\x01\x02" + four(0) + "\x00\x00\x00\x01" + four(2),
		"a number of restarts of 2^16 more":                   "\x00\x02ab\x01\x02" + four(0) + four(1<<16+1) + four(2),
		"a number of restarts of 2^30 more":                   "\x00\x02ab\x01\x02" + four(0) + four(1<<30+1) + four(2),
		"a number of restarts of 2^31":                        "\x00\x02ab\x01\x02" + four(0) + four(1<<31) + four(2),
		"a number of restarts of 2^32 - 1":                    "\x00\x02ab\x01\x02" + four(0) + four(-1) + four(2),
		"more restarts than there is room for":                four(1) + four(1),
		"the number of restarts as their offsets":             four(1) + four(2) + four(1),
		"a restart interval of 0":                             "\x00\x02ab\x01\x02" + four(0) + four(1) + four(0),
		"a restart interval of 65":                            "\x00\x02ab\x01\x02" + four(0) + four(1) + four(65),
		"a restart interval of 255":                           "\x00\x02ab\x01\x02" + four(0) + four(1) + four(255),
		"a restart interval of 2^8 more":                      "\x00\x02ab\x01\x02" + four(0) + four(1) + four(1<<8+2),
		"a restart interval of 2^24 more":                     "\x00\x02ab\x01\x02" + four(0) + four(1) + four(1<<24+2),
		"a restart interval of 2^32 - 1":                      "\x00\x02ab\x01\x02" + four(0) + four(1) + four(-1),
		"a restart interval of other byte order":              "\x00\x02ab\x01\x02" + four(0) + four(1) + "\x00\x00\x00\x02",
		"an interval of 0 without rows":                       four(0) + four(0),
		"an interval of 65 without rows":                      four(0) + four(65),
		"a row that ends behind its shared number":            "\x00" + two,
		"a row that ends behind its key":                      "\x00\x02ab" + two,
		"a row that ends behind its number":                   "\x00\x02ab\x01" + two,
		"a row that ends behind its kind":                     "\x00\x02ab\x01\x01" + two,
		"a row that ends in its value":                        "\x00\x02ab\x01\x01\x02x" + two,
		"a second row that ends behind its shared number":     "\x00\x02ab\x01\x02" + "\x02" + two,
		"a second row that ends behind its key":               "\x00\x02ab\x01\x02" + "\x02\x01c" + two,
		"a number of the row that has no end":                 "\x00\x02ab" + fill(11, 0xff) + "\x02" + two,
		"a key whose length is very great":                    "\x00" + short(1<<63) + "ab\x01\x02" + two,
		"a value whose length is very great":                  "\x00\x02ab\x01\x01" + short(1<<64-1) + "ab" + two,
		"7 bytes":                                             fill(7, 1),
		"only the number of restarts and 3 bytes of the last": four(0) + "\x01\x00\x00",
	}
	for what, s := range wrong {
		isNone(t, what, s)
	}
	for what, s := range map[string]string{
		"two rows":              "\x00\x02ab\x01\x02" + "\x01\x01c\x01\x02" + two,
		"one key again":         "\x00\x02ab\x02\x02" + "\x02\x00\x01\x02" + two,
		"two restarts":          "\x00\x02ab\x01\x02" + "\x00\x02ac\x01\x02" + four(0) + four(6) + four(2) + four(1),
		"a number of 8 bytes":   "\x00\x02ab" + short(1<<56-1) + "\x02" + two,
		"a key of 520 bytes":    "\x00" + field(fill(519, 'k')) + "\x01\x02" + short(519) + "\x01k\x01\x02" + two,
		"a value of 2048 bytes": "\x00\x01a\x01\x01" + field(fill(2048, 'v')) + two,
		"none":                  four(0) + four(64),
	} {
		if !isRead(t, s, api.Row{Key: "ab", Seq: 1}) {
			t.Errorf("%s: the test's own Rows of % x", what, brief(s))
		}
	}
}

// P11.3: rows whose numbers, or whose bytes, are too many.
func TestRowsTooMany(t *testing.T) {
	for _, restart := range []int{1, 2, 16, 63, 64} {
		isRows(t, slowBlock(manyRows(1024), restart), manyRows(1024))
		isNone(t, "1025 rows", slowBlock(manyRows(1025), restart))
		isNone(t, "2000 rows", slowBlock(manyRows(2000), restart))
		isNone(t, "5000 rows", slowBlock(manyRows(5000), restart))
	}
	isNone(t, "10000 rows", slowBlock(manyRows(10000), 64))
	isNone(t, "65536 bytes", fill(65536, 1))
	isNone(t, "65537 bytes", fill(65529, 0)+four(0)+four(1))
}

// P11.3: what each key adds to the previous one makes keys that are too long; they are no rows, how many they may be.
func TestRowsGrowingKeys(t *testing.T) {
	for _, more := range []int{1, 100, 260, 520} {
		rows := ""
		for n := 0; len(rows) < 60000; n += more {
			rows += short(uint64(n)) + field(fill(more, 'k')) + "\x01\x02"
		}
		isNone(t, fmt.Sprint("keys that grow by ", more), rows+four(0)+four(1)+four(64))
	}
}

// P11.3, P11.5: each place at, beside and between rows; a place of one of them, and places ahead of and behind all.
func TestSeek(t *testing.T) {
	keys := []string{"a", "aa", "ab", "b", "ba", "c", "\x00", "\xff", "\xff\xff", "k\x00"}
	var l []api.Row
	for i, key := range keys {
		for _, seq := range []uint64{1<<56 - 1, 300, 7, 1}[:1+i%4] {
			l = append(l, put(key, seq, "v"+key))
		}
	}
	l = inOrder(l)
	for restart := 1; restart <= 64; restart++ {
		for n := range len(l) + 1 {
			if n > 4 && n < len(l)-1 && n%5 > 0 {
				continue
			}
			s := built(t, l[:n], restart)
			for _, key := range append([]string{"", "\x00\x00", "aaa", "ac", "bb", "d", "k", fill(600, 'a'), fill(600, 255)}, keys...) {
				for _, seq := range []uint64{0, 1, 2, 6, 7, 8, 299, 300, 301, 1<<56 - 2, 1<<56 - 1, 1 << 56, 1<<64 - 1} {
					isSeek(t, s, key, seq)
				}
			}
		}
	}
}

// P11.5: every row of a full block is found at its place, whatever the interval.
func TestSeekEveryRow(t *testing.T) {
	l := manyRows(1024)
	for _, restart := range []int{1, 2, 5, 16, 32, 63, 64} {
		s := built(t, l, restart)
		for i, r := range l {
			if i > 70 && i < 950 && i%29 > 0 {
				continue
			}
			if got, e := block.Seek(s, r.Key, r.Seq); !slices.Equal(got, l[i:]) || e != api.OK {
				t.Errorf("Seek of row %d with %d: %s, %v", i, restart, told(got), e)
			}
			if got, e := block.Seek(s, r.Key, r.Seq-1); !slices.Equal(got, l[i+1:]) || e != api.OK {
				t.Errorf("Seek behind row %d with %d: %s, %v", i, restart, told(got), e)
			}
		}
	}
}

// P11.2, P11.1: a nil list and an empty one are the same; the rows stay as they were, behind the list's length too.
func TestRowsStay(t *testing.T) {
	for restart := 1; restart <= 64; restart++ {
		a, b := built(t, nil, restart), built(t, []api.Row{}, restart)
		if a != b || len(a) != 8 {
			t.Errorf("interval %d: % x for a nil list, % x for an empty one", restart, a, b)
		}
		if l, e := block.Rows(a); len(l) != 0 || e != api.OK {
			t.Errorf("Rows of a block of none: %s, %v", told(l), e)
		}
		if l, e := block.Seek(a, "", math.MaxUint64); len(l) != 0 || e != api.OK {
			t.Errorf("Seek of a block of none: %s, %v", told(l), e)
		}
	}
	whole := append(slices.Clone(three), put("behind", 1, "it"), put("z", 1, ""))
	was := slices.Clone(whole)
	s := built(t, whole[:3], 2)
	block.Order(whole[:3])
	block.Build(whole[:3], 0)
	if !slices.Equal(whole, was) {
		t.Errorf("the rows are changed to %s", told(whole))
	}
	want := slowBlock(three, 2)
	whole[0].Key, whole[1].Value = "changed", "too"
	if s != want {
		t.Errorf("the block changed with the rows: % x", s)
	}
}

// memory has the places of the bytes of strings.
type memory map[*byte]bool

// isNew tells whether none of the bytes of s is there already.
func (m memory) isNew(s string) bool {
	for i := range len(s) {
		at := unsafe.StringData(s[i:])
		if m[at] {
			return false
		}
		m[at] = true
	}
	return true
}

// P11.3: results are in memory of their own: keys that are the same, and values, share nothing with each other nor with the block.
func TestNewMemory(t *testing.T) {
	l := []api.Row{put("aab", 3, "xyz"), del("aab", 2), put("aab", 1, "xyz"), put("aabc", 9, ""), put("bb", 2, "uv"), put("bb", 1, "uv")}
	for _, restart := range []int{1, 2, 3, 64} {
		// The bytes stand in memory of the test, where a part of it would be found again.
		s := strings.Clone(built(t, l, restart))
		m := memory{}
		m.isNew(s)
		for range 2 {
			rows, _ := block.Rows(s)
			sought, _ := block.Seek(s, "aab", 2)
			if len(rows) != 6 || len(sought) != 5 {
				t.Fatalf("%d rows, %d sought ones", len(rows), len(sought))
			}
			for _, r := range append(rows, sought...) {
				if !m.isNew(r.Key) || !m.isNew(r.Value) {
					t.Errorf("interval %d: the row %s shares memory", restart, told([]api.Row{r}))
				}
			}
		}
		one, two := built(t, l, restart), built(t, l, restart)
		if !m.isNew(one) || !m.isNew(two) {
			t.Errorf("interval %d: two blocks in one memory", restart)
		}
	}
}

// P2, P11.2, P11.3: the same calls return the same again, whatever the caller did to an earlier result.
func TestSameAgain(t *testing.T) {
	for restart := 1; restart <= 64; restart++ {
		l := manyRows(3 * restart)
		s := built(t, l, restart)
		rows, _ := block.Rows(s)
		sought, _ := block.Seek(s, l[restart].Key, l[restart].Seq)
		for _, x := range [][]api.Row{rows, sought} {
			for i := range x {
				x[i] = api.Row{}
			}
			_ = append(x[:0], put("other", 1, ""))
		}
		built(t, three, restart)
		if again := built(t, l, restart); again != s {
			t.Errorf("interval %d: another block the second time", restart)
		}
		isRows(t, s, l)
		isSeek(t, s, l[restart].Key, l[restart].Seq)
	}
}
