package batch_test

import (
	"fmt"
	"math"
	"math/rand/v2"
	"slices"
	"strings"
	"testing"
	"unsafe"

	"freshet/api"
	"freshet/batch"
)

// isError tests that Check and Encode refuse a batch that is named by its example.
func isError(t *testing.T, what string, b api.Batch, e api.Errno) {
	t.Helper()
	if got := batch.Check(b); got != e {
		t.Errorf("Check(%s): %v, want %v", what, got, e)
	}
	if s, got := batch.Encode(b); s != "" || got != e {
		t.Errorf("Encode(%s): % x, %v, want %v", what, brief(s), got, e)
	}
}

// The chapter's examples: P6.1, P6.2.
func TestExamples(t *testing.T) {
	two := of(1, put("a", "x"), del("b"))
	if s, e := batch.Encode(two); s != "\x01\x02\x01\x01\x61\x01\x78\x02\x01\x62" || e != api.OK {
		t.Errorf("Encode(1, put a x, delete b): % x, %v", s, e)
	}
	isError(t, "1, none", of(1), api.ErrArg)
	isError(t, "0, put a x", of(0, put("a", "x")), api.ErrArg)
	isError(t, "1, delete b with x", of(1, api.Write{Kind: 2, Key: "b", Value: "x"}), api.ErrArg)
	isError(t, "1, put empty", of(1, put("", "")), api.ErrArg)
	isError(t, "1, put empty with x", of(1, put("", "x")), api.ErrArg)
	isError(t, "1, put of 521 bytes", of(1, put(fill(521, 'a'), "")), api.ErrLong)
	isError(t, "1, 65 puts", of(1, puts(65)...), api.ErrLong)
	isNone(t, "\x01\x01\x01\x01\x61\x01\x78\x00")
	isNone(t, "\x01\x00")
	if n := batch.Next(of(5, put("a", "x"), del("b"))); n != 7 {
		t.Errorf("Next(5, put a x, delete b): %d, want 7", n)
	}
}

// P6.1, P6.2: numbers of writes, those that are valid and those beside them.
func TestNumbersOfWrites(t *testing.T) {
	for _, n := range []int{0, 1, 2, 3, 63, 64, 65, 66, 127, 128, 129, 255, 256, 257, 1000} {
		e := api.OK
		switch {
		case n < 1:
			e = api.ErrArg
		case n > 64:
			e = api.ErrLong
		}
		for _, seq := range []uint64{1, 77, mostSeq} {
			isCheck(t, fmt.Sprint(n, " puts from ", seq), of(seq, puts(n)...), e)
			isCheck(t, fmt.Sprint(n, " deletes from ", seq), of(seq, slices.Repeat([]api.Write{del("a")}, n)...), e)
		}
		isCheck(t, fmt.Sprint(n, " puts from 0"), of(0, puts(n)...), api.ErrArg)
	}
	for n := 1; n <= 64; n++ {
		isCheck(t, fmt.Sprint(n, " puts"), of(1, puts(n)...), api.OK)
	}
	isCheck(t, "the zero batch", api.Batch{}, api.ErrArg)
	isCheck(t, "an empty list", api.Batch{Seq: 1, List: []api.Write{}}, api.ErrArg)
	isCheck(t, "a nil list", api.Batch{Seq: 1, List: nil}, api.ErrArg)
}

// P6.1, P6.2: a Seq at each edge, about each power of 2.
func TestSeqs(t *testing.T) {
	seqs := []uint64{0, 1, 2, mostSeq - 1, mostSeq, mostSeq + 1, mostSeq + 2, mostSeq + 63, 1<<56 - 1, 1 << 56, 1<<56 + 1, math.MaxUint64 - 1, math.MaxUint64}
	for i := range 64 {
		seqs = append(seqs, 1<<i-1, 1<<i, 1<<i+1)
	}
	for _, seq := range seqs {
		e := api.OK
		if seq < 1 || seq > mostSeq {
			e = api.ErrArg
		}
		isCheck(t, fmt.Sprint("a put from ", seq), of(seq, put("a", "x")), e)
		isCheck(t, fmt.Sprint("64 puts from ", seq), of(seq, puts(64)...), e)
		isWanted(t, slowEncode(of(seq, put("a", "x"))))
	}
}

// P6.1, P6.2: kinds that are valid, those beside them, and those of which a byte or a few would be.
func TestKinds(t *testing.T) {
	for _, kind := range []int{0, 1, 2, 3, 4, -1, -2, -3, 127, 128, 255, 256, 257, 258, 1<<16 + 1, 1<<16 + 2, 1<<32 + 1, 1<<32 + 2, 1 << 62, -255, -254, math.MaxInt, math.MinInt, math.MinInt + 1, math.MinInt + 2} {
		e := api.ErrArg
		if kind == 1 || kind == 2 {
			e = api.OK
		}
		w := api.Write{Kind: kind, Key: "a"}
		what := fmt.Sprint("a write of kind ", kind)
		isCheck(t, what, of(1, w), e)
		isCheck(t, what+" behind another one", of(1, put("b", "y"), w), e)
		isCheck(t, what+" ahead of another one", of(1, w, del("b")), e)
		isCheck(t, what+" with no key", of(1, api.Write{Kind: kind}), api.ErrArg)
		if kind != 1 {
			w.Value = "x"
			isCheck(t, what+" with a value", of(1, w), api.ErrArg)
		}
	}
}

// P6.1, P6.2: lengths of keys and values, at and beside the limits.
func TestLengths(t *testing.T) {
	for _, x := range []struct {
		key int
		e   api.Errno
	}{{0, api.ErrArg}, {1, api.OK}, {2, api.OK}, {64, api.OK}, {127, api.OK}, {128, api.OK}, {519, api.OK}, {520, api.OK}, {521, api.ErrLong}, {522, api.ErrLong}, {1032, api.ErrLong}, {2048, api.ErrLong}, {1 << 16, api.ErrLong}, {1<<16 + 1, api.ErrLong}} {
		key := fill(x.key, 'k')
		isCheck(t, fmt.Sprint("a put of a key of ", x.key), of(1, put(key, "x")), x.e)
		isCheck(t, fmt.Sprint("a put of no value under a key of ", x.key), of(1, put(key, "")), x.e)
		isCheck(t, fmt.Sprint("a delete of a key of ", x.key), of(1, del(key)), x.e)
		isCheck(t, fmt.Sprint("a key of ", x.key, " behind others"), of(1, put("a", "x"), del("b"), put(key, "y")), x.e)
	}
	for _, x := range []struct {
		value int
		e     api.Errno
	}{{0, api.OK}, {1, api.OK}, {127, api.OK}, {128, api.OK}, {520, api.OK}, {521, api.OK}, {2047, api.OK}, {2048, api.OK}, {2049, api.ErrLong}, {2050, api.ErrLong}, {4096, api.ErrLong}, {1 << 16, api.ErrLong}, {1<<16 + 1, api.ErrLong}} {
		value := fill(x.value, 'v')
		isCheck(t, fmt.Sprint("a put of ", x.value), of(1, put("a", value)), x.e)
		isCheck(t, fmt.Sprint("a put of ", x.value, " behind others"), of(1, put("a", "x"), del("b"), put("c", value)), x.e)
		isCheck(t, fmt.Sprint("a put of ", x.value, " under the longest key"), of(1, put(fill(520, 'k'), value)), x.e)
		e := api.ErrArg
		if x.value == 0 {
			e = api.OK
		}
		isCheck(t, fmt.Sprint("a delete with ", x.value), of(1, api.Write{Kind: 2, Key: "a", Value: value}), e)
	}
	most := slices.Repeat([]api.Write{put(fill(520, 'k'), fill(2048, 'v'))}, 64)
	isCheck(t, "the longest batch", of(mostSeq, most...), api.OK)
	s, _ := batch.Encode(of(mostSeq, most...))
	isDecode(t, s, of(mostSeq, most...))
}

// P6.1: any bytes may stand in keys and values.
func TestAnyBytes(t *testing.T) {
	for c := range 256 {
		one := string([]byte{byte(c)})
		b := of(300, put(one, one), del(one), put(one+one, ""), put("k"+one, one+"v"+one))
		isCheck(t, fmt.Sprint("writes of byte ", c), b, api.OK)
		isDecode(t, slowEncode(b), b)
	}
}

// causes are writes that are not valid, by what is wrong.
func causes() (arg, long []api.Write) {
	arg = []api.Write{
		{}, {Kind: 0, Key: "a"}, {Kind: 3, Key: "a"}, {Kind: -1, Key: "a", Value: "x"}, {Kind: 1}, {Kind: 2}, {Kind: 1, Value: "x"}, {Kind: 2, Key: "a", Value: "x"},
		// Both causes in one write.
		{Kind: 0, Key: fill(521, 'k')}, {Kind: 3, Key: "a", Value: fill(2049, 'v')}, {Kind: 1, Value: fill(2049, 'v')}, {Kind: 2, Key: "a", Value: fill(2049, 'v')}, {Kind: 2, Key: fill(521, 'k'), Value: "x"},
	}
	long = []api.Write{put(fill(521, 'k'), ""), del(fill(521, 'k')), put("a", fill(2049, 'v')), put(fill(521, 'k'), fill(2049, 'v'))}
	return arg, long
}

// P6.1: a cause of ErrArg comes ahead of one of ErrLong, whichever write each is in.
func TestSeveralCauses(t *testing.T) {
	arg, long := causes()
	good := put("a", "x")
	for i, a := range arg {
		isCheck(t, fmt.Sprint("ErrArg ", i), of(1, a), api.ErrArg)
		for j, l := range long {
			isCheck(t, fmt.Sprint("ErrLong ", j), of(1, l), api.ErrLong)
			what := fmt.Sprint("ErrArg ", i, " and ErrLong ", j)
			for _, b := range []api.Batch{of(1, a, l), of(1, l, a), of(1, good, l, good, a), of(1, good, a, l, good), of(1, l, l, good, l, a, l), of(1, l, a, good)} {
				isCheck(t, what, b, api.ErrArg)
			}
			for _, b := range []api.Batch{of(1, good, l), of(1, l, good), of(1, l, l), of(1, good, good, l, good)} {
				isCheck(t, what, b, api.ErrLong)
			}
			for _, seq := range []uint64{0, mostSeq + 1, math.MaxUint64} {
				isCheck(t, what, of(seq, l), api.ErrArg)
				isCheck(t, what, of(seq, good, l, good), api.ErrArg)
			}
		}
	}
}

// P6.1: too many writes are told behind every cause of ErrArg, even in a write that is one too many.
func TestTooManyWritesAndOtherCauses(t *testing.T) {
	arg, long := causes()
	for _, n := range []int{65, 66, 200} {
		for at := range n {
			for _, l := range long {
				b := of(1, puts(n)...)
				b.List[at] = l
				isCheck(t, fmt.Sprint("a long write at ", at, " of ", n), b, api.ErrLong)
			}
			b := of(1, puts(n)...)
			b.List[at] = arg[at%len(arg)]
			isCheck(t, fmt.Sprint("a wrong write at ", at, " of ", n), b, api.ErrArg)
		}
		isCheck(t, "too many from 0", of(0, puts(n)...), api.ErrArg)
		isCheck(t, "too many from beyond", of(mostSeq+1, puts(n)...), api.ErrArg)
	}
	for at := range 64 {
		b := of(1, puts(64)...)
		b.List[at] = arg[at%len(arg)]
		isCheck(t, fmt.Sprint("a wrong write at ", at), b, api.ErrArg)
		b.List[at] = long[at%len(long)]
		isCheck(t, fmt.Sprint("a long write at ", at), b, api.ErrLong)
	}
}

// anyWrite returns a write, mostly a valid one if so asked.
func anyWrite(r *rand.Rand, good int) api.Write {
	w := api.Write{Kind: 1 + r.IntN(2), Key: some(r, 1+r.IntN(6))}
	if w.Kind == 1 {
		w.Value = some(r, r.IntN(6))
	}
	if r.IntN(good) > 0 {
		return w
	}
	switch r.IntN(6) {
	case 0:
		w.Kind = r.IntN(5) - 1
	case 1:
		w.Key = ""
	case 2:
		w.Value = some(r, r.IntN(3))
	case 3:
		w.Key = some(r, 519+r.IntN(4))
	case 4:
		w.Value = some(r, 2047+r.IntN(4))
	}
	return w
}

// anyBatch returns a batch of such writes.
func anyBatch(r *rand.Rand, good int) api.Batch {
	b := api.Batch{Seq: []uint64{0, 1, 2, 127, 128, 300, r.Uint64() >> 8, r.Uint64() >> r.IntN(64), mostSeq, mostSeq + 1}[r.IntN(10)]}
	many := r.IntN(5)
	if r.IntN(20) == 0 {
		many = 62 + r.IntN(5)
	}
	for range many {
		b.List = append(b.List, anyWrite(r, good))
	}
	return b
}

// valid returns batches that are valid: short ones, long ones, and at the limits.
func valid() []api.Batch {
	l := []api.Batch{
		of(1, put("a", "x"), del("b")), of(1, put("a", "")), of(1, del("a")), of(mostSeq, put("a", "x")), of(mostSeq, puts(64)...), of(1, puts(63)...), of(300, puts(2)...),
		of(127, put(fill(127, 'k'), fill(128, 'v'))), of(128, put(fill(128, 'k'), fill(127, 'v'))), of(16384, del(fill(520, 'k')), put(fill(520, 'l'), fill(2048, 'v')), put("a", "x")),
		of(7, del("a"), del("a"), put("a", "1"), put("a", "1"), del("a")), of(1, put("\x01", "\x01"), del("\x02"), put("\x00", "\x00"), put("\xff", "\xff")),
	}
	r := source()
	for len(l) < 300 {
		if b := anyBatch(r, 100); wantCheck(b) == api.OK {
			l = append(l, b)
		}
	}
	return l
}

// P6.1, P6.2: batches of all kinds, held against what the chapter says of them.
func TestHeldAgainstSlowCheck(t *testing.T) {
	r := source()
	for range 30000 {
		b := anyBatch(r, 1+r.IntN(10))
		isCheck(t, "a batch", b, wantCheck(b))
		isWanted(t, slowEncode(b))
	}
}

// P6.1, P6.3: Decode of Encode gives the batch, and Encode of Decode the bytes.
func TestRoundTrip(t *testing.T) {
	for _, b := range valid() {
		s, e := batch.Encode(b)
		if e != api.OK || s != slowEncode(b) {
			t.Errorf("Encode of %d writes from %d: % x, %v", len(b.List), b.Seq, brief(s), e)
		}
		isDecode(t, s, b)
		got, _ := batch.Decode(s)
		if !batch.Same(got, b) {
			t.Errorf("Decode of Encode of %d writes from %d isn't the same", len(b.List), b.Seq)
		}
		if again, e := batch.Encode(got); again != s || e != api.OK {
			t.Errorf("Encode of Decode of % x: % x, %v", brief(s), brief(again), e)
		}
	}
}

// P6.1, P6.3: each beginning of an encoding, and an encoding with bytes behind it.
func TestCutAndFollowed(t *testing.T) {
	for _, b := range valid() {
		s := slowEncode(b)
		for i := range len(s) {
			isNone(t, s[:i])
		}
		for c := range 256 {
			isNone(t, s+string([]byte{byte(c)}))
		}
		isNone(t, s+s)
		isNone(t, s+slowWrite(put("a", "x")))
		isNone(t, s+slowWrite(del("a")))
		isNone(t, "\x01"+s)
	}
}

// P6.1: a number of writes that is not the one that follows.
func TestWrongNumberOfWrites(t *testing.T) {
	for _, n := range []int{0, 1, 2, 3, 63, 64, 65, 66} {
		behind := ""
		for _, w := range puts(n) {
			behind += slowWrite(w)
		}
		for told := range uint64(300) {
			s := "\x05" + short(told) + behind
			if told == uint64(n) && 1 <= n && n <= 64 {
				isDecode(t, s, of(5, puts(n)...))
			} else {
				isNone(t, s)
			}
		}
		for _, told := range []uint64{1 << 16, 1<<32 + uint64(n), 1<<63 + uint64(n), math.MaxUint64, math.MaxUint64 - 63} {
			isNone(t, "\x05"+short(told)+behind)
		}
	}
}

// P6.1: many writes more than there may be, with and without their number.
func TestDecodeManyWrites(t *testing.T) {
	behind := strings.Repeat(slowWrite(del("a")), 100000)
	for _, told := range []uint64{1, 64, 65, 100000, 100000 % 256, math.MaxUint64} {
		isNone(t, "\x01"+short(told)+behind)
	}
	isNone(t, slowEncode(of(1, put("a", strings.Repeat("v", 1<<20)))))
	isNone(t, slowEncode(of(1, del(strings.Repeat("k", 1<<20)))))
	isNone(t, strings.Repeat("\x80", 1<<20))
}

// P6.1: lengths and numbers that are not the shortest, and those that are none.
func TestDecodeNotShortest(t *testing.T) {
	isDecode(t, "\x01\x01\x01\x01a\x01x", of(1, put("a", "x")))
	for i, s := range []string{
		"\x81\x00\x01\x01\x01a\x01x", "\x01\x81\x00\x01\x01a\x01x", "\x01\x01\x01\x81\x00a\x01x", "\x01\x01\x01\x01a\x81\x00x",
		"\x81\x80\x00\x01\x01\x01a\x01x", "\x01\x81\x80\x00\x01\x01a\x01x", "\x01\x01\x01\x81\x80\x00a\x01x", "\x01\x01\x01\x01a\x81\x80\x00x",
		"\x01\x01\x01\x01a\x80\x00", "\x01\x01\x02\x81\x00a", "\x01\x01\x81\x00\x01a\x01x",
	} {
		if got, e := batch.Decode(s); got.Seq != 0 || got.List != nil || e != api.ErrForm {
			t.Errorf("number %d, Decode(% x): %v, %v", i, s, got, e)
		}
	}
	for _, none := range []string{"", "\x80", "\xff\xff", strings.Repeat("\xff", 9) + "\x02", strings.Repeat("\x80", 10), strings.Repeat("\xff", 9) + "\x01", short(1 << 63), short(math.MaxInt64), short(1 << 32)} {
		for _, s := range []string{none + "\x01\x01\x01a\x01x", "\x01" + none + "\x01\x01a\x01x", "\x01\x01\x01" + none + "a\x01x", "\x01\x01\x01\x01a" + none + "x", "\x01\x01\x02" + none + "a"} {
			isWanted(t, s)
		}
	}
	isNone(t, strings.Repeat("\xff", 9)+"\x01\x01\x01\x01a\x01x")
	isNone(t, "\x01\x01\x01"+short(math.MaxUint64)+"a\x01x")
}

// P6.1: what would be an encoding, but that its batch is not valid.
func TestDecodeNotValid(t *testing.T) {
	arg, long := causes()
	for _, w := range append(arg, long...) {
		isNone(t, slowEncode(of(1, w)))
		isNone(t, slowEncode(of(1, put("a", "x"), w)))
		isNone(t, slowEncode(of(1, w, put("a", "x"))))
	}
	for _, seq := range []uint64{0, mostSeq + 1, 1 << 56, math.MaxUint64} {
		isNone(t, slowEncode(of(seq, put("a", "x"))))
	}
	isNone(t, slowEncode(of(1)))
	isNone(t, slowEncode(of(1, puts(65)...)))
	isDecode(t, slowEncode(of(mostSeq, puts(64)...)), of(mostSeq, puts(64)...))
	// A delete has no value at all, not even an empty one; a put has one.
	isNone(t, "\x01\x01\x02\x01a\x00")
	isNone(t, "\x01\x01\x01\x01a")
	for c := range 256 {
		for _, behind := range []string{"", "\x01a", "\x01a\x00", "\x01a\x01x"} {
			isWanted(t, "\x01\x01"+string([]byte{byte(c)})+behind)
		}
	}
}

// P6.1, P6.3: every short string of the bytes that matter; no encoding among them is a proper prefix of another one.
func TestDecodeEveryShortString(t *testing.T) {
	var l []string
	for _, s := range slices.Concat(every("\x00\x01\x02\x03\x80", 7), every("\x00\x01\x02", 9)) {
		if isWanted(t, s) {
			l = append(l, s)
		}
	}
	slices.Sort(l)
	l = slices.Compact(l)
	if len(l) < 500 {
		t.Errorf("only %d of the strings are encodings", len(l))
	}
	for i, s := range l[1:] {
		// If a string is a prefix of any other one, it is one of the next in order.
		if strings.HasPrefix(s, l[i]) {
			t.Errorf("the encoding % x is a prefix of % x", l[i], s)
		}
	}
}

// P6.3: no encoding is a proper prefix of another one, long ones included.
func TestNoPrefix(t *testing.T) {
	var l []string
	for _, b := range valid() {
		// And what begins as b does.
		for n := range b.List {
			c := of(b.Seq, b.List[:n+1]...)
			s, e := batch.Encode(c)
			if e != api.OK {
				t.Fatalf("Encode of %d writes: %v", n+1, e)
			}
			l = append(l, s)
		}
	}
	slices.Sort(l)
	l = slices.Compact(l)
	for i, s := range l[1:] {
		if strings.HasPrefix(s, l[i]) {
			t.Errorf("the encoding % x is a prefix of % x", brief(l[i]), brief(s))
		}
	}
}

// P6.1: arbitrary bytes, and encodings of which some bytes are others, held against what the chapter says.
func TestDecodeArbitrary(t *testing.T) {
	r := source()
	good := 0
	batches := valid()
	for range 60000 {
		isWanted(t, some(r, r.IntN(30)))
		b := []byte(slowEncode(batches[r.IntN(len(batches))]))
		for range 1 + r.IntN(2) {
			i := r.IntN(min(len(b), 24))
			switch r.IntN(3) {
			case 0:
				b[i] = "\x00\x01\x02\x03\x7f\x80\xff"[r.IntN(7)]
			case 1:
				b = slices.Insert(b, i, byte(r.IntN(4)))
			case 2:
				if len(b) > 1 {
					b = slices.Delete(b, i, i+1)
				}
			}
		}
		if isWanted(t, string(b)) {
			good++
		}
	}
	if good < 100 {
		t.Errorf("only %d of the changed strings are encodings", good)
	}
}

// P6.2: Rows and Next, of ordinary batches.
func TestRowsAndNext(t *testing.T) {
	l := batch.Rows(of(5, put("a", "x"), del("b"), put("a", "")))
	want := []api.Row{{Key: "a", Seq: 5, Kind: 1, Value: "x"}, {Key: "b", Seq: 6, Kind: 2}, {Key: "a", Seq: 7, Kind: 1}}
	if !slices.Equal(l, want) {
		t.Errorf("Rows: %v, want %v", l, want)
	}
	if n := batch.Next(of(mostSeq, puts(64)...)); n != 1<<56 {
		t.Errorf("Next of the last batch: %d", n)
	}
	for _, b := range valid() {
		isRows(t, "a valid batch", b, true)
	}
}

// P6.2: Rows and Next of batches that are not valid.
func TestRowsAndNextNotValid(t *testing.T) {
	arg, long := causes()
	for _, w := range append(arg, long...) {
		isRows(t, "a wrong write", of(1, w), false)
		isRows(t, "a wrong write at the end", of(1, put("a", "x"), w), false)
	}
	isRows(t, "no writes", of(5), false)
	isRows(t, "the zero batch", api.Batch{}, false)
	isRows(t, "65 writes", of(1, puts(65)...), false)
	isRows(t, "Seq 0", of(0, put("a", "x")), false)
	isRows(t, "Seq beyond", of(mostSeq+1, put("a", "x")), false)
	isRows(t, "the greatest Seq", of(math.MaxUint64, put("a", "x")), false)
}

// changed returns batches each of which is unlike b in one thing.
func changed(b api.Batch) []api.Batch {
	l := []api.Batch{of(b.Seq+1, b.List...), of(b.Seq, append(slices.Clone(b.List), api.Write{})...), of(b.Seq, append(slices.Clone(b.List), put("a", "x"))...)}
	for i, w := range b.List {
		l = append(l, of(b.Seq, slices.Delete(slices.Clone(b.List), i, i+1)...))
		for _, v := range []api.Write{{Kind: w.Kind + 1, Key: w.Key, Value: w.Value}, {Kind: w.Kind + 256, Key: w.Key, Value: w.Value}, {Kind: w.Kind, Key: w.Key + "\x00", Value: w.Value}, {Kind: w.Kind, Key: "", Value: w.Value + w.Key + "y"}, {Kind: w.Kind, Key: w.Key, Value: w.Value + "\x00"}} {
			c := of(b.Seq, slices.Clone(b.List)...)
			c.List[i] = v
			l = append(l, c)
		}
	}
	return l
}

// isSame tests Same, both ways round.
func isSame(t *testing.T, a, b api.Batch, want bool) {
	t.Helper()
	if batch.Same(a, b) != want || batch.Same(b, a) != want {
		t.Errorf("Same of %d writes from %d and %d from %d: %v, %v, want %v", len(a.List), a.Seq, len(b.List), b.Seq, batch.Same(a, b), batch.Same(b, a), want)
	}
}

// P6.2: Same of a batch and itself, a copy, and what is unlike it in one thing; valid or not.
func TestSame(t *testing.T) {
	arg, long := causes()
	l := append(valid()[:60], api.Batch{}, of(1), of(0, put("a", "x")), of(math.MaxUint64, puts(65)...), of(1, arg...), of(1, long...), of(0, append(arg, long...)...), of(1, api.Write{}), of(1, api.Write{Kind: -1}, api.Write{Kind: math.MaxInt, Value: "x"}))
	for _, b := range l {
		isSame(t, b, b, true)
		c := of(b.Seq, slices.Clone(b.List)...)
		for i := range c.List {
			c.List[i].Key, c.List[i].Value = strings.Clone(c.List[i].Key), strings.Clone(c.List[i].Value)
		}
		isSame(t, b, c, true)
		for _, d := range changed(b) {
			isSame(t, b, d, false)
		}
	}
	isSame(t, api.Batch{Seq: 3}, api.Batch{Seq: 3, List: []api.Write{}}, true)
	isSame(t, api.Batch{Seq: 3}, api.Batch{Seq: 4}, false)
	isSame(t, of(1, put("a", "x"), del("b")), of(1, del("b"), put("a", "x")), false)
	isSame(t, of(1, put("ab", "c")), of(1, put("a", "bc")), false)
	isSame(t, of(1, put("a", "")), of(1, del("a")), false)
}

// P6.4: a batch has consecutive numbers from Seq on, and Next is one more than the last of them.
func TestNumbers(t *testing.T) {
	for _, b := range valid() {
		l := batch.Rows(b)
		for i, r := range l {
			if r.Seq != b.Seq+uint64(i) {
				t.Errorf("row %d of a batch from %d has the number %d", i, b.Seq, r.Seq)
			}
		}
		if n := batch.Next(b); n != l[len(l)-1].Seq+1 {
			t.Errorf("Next is %d, the last row's number %d", n, l[len(l)-1].Seq)
		}
	}
}

// P6.4: a batch that is cut into two has the rows of both parts, unless the second one's Seq is too great.
func TestParts(t *testing.T) {
	r := source()
	for _, b := range append(valid(), of(mostSeq, puts(64)...), of(mostSeq-30, puts(64)...), of(mostSeq-63, puts(64)...), of(mostSeq-64, puts(64)...)) {
		whole := batch.Rows(b)
		for cut := 1; cut < len(b.List); cut++ {
			if len(b.List) > 10 && r.IntN(4) > 0 && b.Seq < mostSeq-100 {
				continue
			}
			first := of(b.Seq, b.List[:cut]...)
			second := of(batch.Next(first), b.List[cut:]...)
			if valid := b.Seq+uint64(cut) <= mostSeq; (batch.Check(second) == api.OK) != valid {
				t.Errorf("the second part of a batch from %d, from %d on: %v", b.Seq, second.Seq, batch.Check(second))
			} else if valid && !slices.Equal(slices.Concat(batch.Rows(first), batch.Rows(second)), whole) {
				t.Errorf("the rows of the parts of a batch from %d that is cut at %d", b.Seq, cut)
			} else if valid && batch.Next(second) != batch.Next(b) {
				t.Errorf("Next of the second part: %d, of the whole batch %d", batch.Next(second), batch.Next(b))
			}
		}
	}
}

// The rules that hold everywhere: an argument isn't changed, nor what lies behind it.
func TestArgumentsNotChanged(t *testing.T) {
	arg, long := causes()
	for _, b := range append(valid(), of(1), of(0, arg...), of(1, long...), of(1, puts(65)...)) {
		behind := put("behind", "what is behind the list")
		list := append(slices.Clone(b.List), behind, behind)
		handed := api.Batch{Seq: b.Seq, List: list[:len(b.List)]}
		batch.Check(handed)
		s, _ := batch.Encode(handed)
		batch.Decode(s)
		rows := batch.Rows(handed)
		batch.Next(handed)
		batch.Same(handed, handed)
		for i := range rows {
			rows[i] = api.Row{}
		}
		if !equal(handed, b) || list[len(b.List)] != behind || list[len(b.List)+1] != behind {
			t.Errorf("a batch of %d writes from %d was changed", len(b.List), b.Seq)
		}
	}
}

// shares tells whether two strings lie in the same memory.
func shares(a, b string) bool {
	if a == "" || b == "" {
		return false
	}
	p, q := uintptr(unsafe.Pointer(unsafe.StringData(a))), uintptr(unsafe.Pointer(unsafe.StringData(b)))
	return p < q+uintptr(len(b)) && q < p+uintptr(len(a))
}

// notShared tests that no two of these strings lie in the same memory.
func notShared(t *testing.T, call string, l ...string) {
	t.Helper()
	for i, s := range l {
		for _, u := range l[:i] {
			if shares(s, u) {
				t.Errorf("%s: %q shares memory", call, brief(s))
			}
		}
	}
}

// The rules that hold everywhere: a result is new memory, and shares none within itself.
func TestNewMemory(t *testing.T) {
	key, value := strings.Clone("a key of words"), strings.Clone("a value of words")
	b := of(3, put(key, value), put(key, value), del(key), put(key, key))
	one, _ := batch.Encode(b)
	two, _ := batch.Encode(b)
	notShared(t, "Encode", key, value, one, two)
	l := []string{key, value, one}
	for range 2 {
		got, _ := batch.Decode(one)
		for _, w := range got.List {
			l = append(l, w.Key, w.Value)
		}
	}
	notShared(t, "Decode", l...)
	l = []string{key, value}
	for range 2 {
		for _, r := range batch.Rows(b) {
			l = append(l, r.Key, r.Value)
		}
	}
	notShared(t, "Rows", l...)
}

// The rules that hold everywhere: no call keeps what it was given, or what it answered.
func TestNothingKept(t *testing.T) {
	b := of(3, put("a", "x"), del("b"))
	s, _ := batch.Encode(b)
	first, _ := batch.Decode(s)
	rows := batch.Rows(b)
	first.List[0], rows[0], b.List[1] = del("z"), api.Row{}, put("y", "y")
	isDecode(t, s, of(3, put("a", "x"), del("b")))
	isCheck(t, "a batch of which a write is another one now", b, api.OK)
	if rows[1] != (api.Row{Key: "b", Seq: 4, Kind: 2}) {
		t.Errorf("a row of an earlier answer is %v now", rows[1])
	}
}

// P2: the same calls have the same results, whatever was called between them.
func TestSameAgain(t *testing.T) {
	l := valid()[:80]
	for range 3 {
		for _, b := range l {
			isCheck(t, "a batch", b, api.OK)
			isDecode(t, slowEncode(b), b)
			isNone(t, slowEncode(b)+"\x00")
			isCheck(t, "a batch from 0", of(0, b.List...), api.ErrArg)
		}
	}
}
