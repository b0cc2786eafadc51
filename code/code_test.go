package code_test

import (
	"encoding/binary"
	"math"
	"math/rand/v2"
	"slices"
	"strings"
	"testing"
	"unsafe"

	"freshet/api"
	"freshet/code"
)

// source returns numbers that look random and are the same in each run.
func source() *rand.Rand { return rand.New(rand.NewPCG(3, 4)) }

// some returns n bytes.
func some(r *rand.Rand, n int) string {
	b := make([]byte, n)
	for i := range b {
		b[i] = byte(r.Uint32())
	}
	return string(b)
}

// uints returns the edges of 64-bit numbers, the ones about each power of 2, and some of every count of bits; in order, each once.
func uints() []uint64 {
	l := []uint64{0, 300, math.MaxUint64}
	r := source()
	for i := range 64 {
		l = append(l, 1<<i-1, 1<<i, 1<<i+1, r.Uint64()>>i, r.Uint64()>>i)
	}
	slices.Sort(l)
	return slices.Compact(l)
}

// ints returns those numbers taken with a sign, and their negatives; in order, each once.
func ints() []int64 {
	l := []int64{math.MinInt64, math.MinInt64 + 1, math.MaxInt64 - 1, api.MaxTime, -api.MaxTime}
	for _, u := range uints() {
		l = append(l, int64(u), -int64(u), ^int64(u))
	}
	slices.Sort(l)
	return slices.Compact(l)
}

// texts returns ordinary strings, those with bytes 0 and 255, every string of one byte, and all of up to three of the bytes that matter; in order, each once.
func texts() []string {
	l := []string{
		"a longer text, with some words in it", "é€", "\xc3(", "aaaaaaab", "key\x00with\x00zeros", "\x00\xff\x00\xff", "\x00\x00\xff\xff\x00",
		strings.Repeat("\x00", 64), strings.Repeat("\xff", 64), strings.Repeat("\x00\xff", 50),
		strings.Repeat("x", 127), strings.Repeat("x", 128), strings.Repeat("\x00", 129), strings.Repeat("y", 16383), strings.Repeat("y", 16384),
	}
	for c := range 256 {
		l = append(l, string([]byte{byte(c)}))
	}
	l = append(l, every("\x00\x01\x02a\xfe\xff", 3)...)
	r := source()
	for n := range 40 {
		l = append(l, some(r, n), some(r, n))
	}
	slices.Sort(l)
	return slices.Compact(l)
}

// every returns all strings of at most so many of these bytes, the empty one first.
func every(alphabet string, most int) []string {
	l := []string{""}
	for from := 0; most > 0; most-- {
		to := len(l)
		for _, s := range l[from:to] {
			for i := range len(alphabet) {
				l = append(l, s+alphabet[i:i+1])
			}
		}
		from = to
	}
	return l
}

// tails are what may follow an encoding.
var tails = []string{"", "\x00", "\x00\x00", "\x00\x01", "\x00\xff", "\x01", "\x7f", "\x80", "\xff", "\xff\x00\x01", "a", "and more bytes", strings.Repeat("\xff", 12)}

// short is the library's short number.
func short(n uint64) string { return string(binary.AppendUvarint(nil, n)) }

// wantUint works out what Uint answers by holding every beginning of s against the short number of what the library makes of it.
func wantUint(s string) (uint64, int, api.Errno) {
	cut := len(s) < 10
	for i := range min(len(s), 10) {
		n, size := binary.Uvarint([]byte(s[:i+1]))
		if size == i+1 && short(n) == s[:i+1] {
			return n, size, api.OK
		}
		cut = cut && s[i] >= 128
	}
	if cut {
		return 0, 0, api.ErrShort
	}
	return 0, 0, api.ErrForm
}

// wantField works out what Field answers.
func wantField(s string, most int) (string, int, api.Errno) {
	n, size, e := wantUint(s)
	switch {
	case e != api.OK:
		return "", 0, e
	case most < 0 || n > uint64(most):
		return "", 0, api.ErrLong
	case n > uint64(len(s)-size):
		return "", 0, api.ErrShort
	}
	return s[size : size+int(n)], size + int(n), api.OK
}

// brief keeps a long string out of a test's words.
func brief(s string) string {
	if len(s) > 40 {
		return s[:40] + ".."
	}
	return s
}

// isUint holds what Uint answers for s against what is wanted.
func isUint(t *testing.T, s string, n uint64, size int, e api.Errno) {
	t.Helper()
	if gn, gsize, ge := code.Uint(s); gn != n || gsize != size || ge != e {
		t.Errorf("Uint(% x) = %d, %d, %v, want %d, %d, %v", brief(s), gn, gsize, ge, n, size, e)
	}
}

// isOrd does so for Ord.
func isOrd(t *testing.T, s string, n int64, e api.Errno) {
	t.Helper()
	if gn, ge := code.Ord(s); gn != n || ge != e {
		t.Errorf("Ord(% x) = %d, %v, want %d, %v", brief(s), gn, ge, n, e)
	}
}

// isText does so for Text.
func isText(t *testing.T, s, text string, size int, e api.Errno) {
	t.Helper()
	if gt, gsize, ge := code.Text(s); gt != text || gsize != size || ge != e {
		t.Errorf("Text(% x) = % x, %d, %v, want % x, %d, %v", brief(s), brief(gt), gsize, ge, brief(text), size, e)
	}
}

// isField does so for Field.
func isField(t *testing.T, s string, most int, text string, size int, e api.Errno) {
	t.Helper()
	if gt, gsize, ge := code.Field(s, most); gt != text || gsize != size || ge != e {
		t.Errorf("Field(% x, %d) = % x, %d, %v, want % x, %d, %v", brief(s), most, brief(gt), gsize, ge, brief(text), size, e)
	}
}

// isBytes holds an encoding against what is wanted.
func isBytes(t *testing.T, call, got, want string) {
	t.Helper()
	if got != want {
		t.Errorf("%s = % x, want % x", call, brief(got), brief(want))
	}
}

// P2.1: the chapter's examples, and known encodings.
func TestPutUint(t *testing.T) {
	isBytes(t, "PutUint(0)", code.PutUint(0), "\x00")
	isBytes(t, "PutUint(1)", code.PutUint(1), "\x01")
	isBytes(t, "PutUint(127)", code.PutUint(127), "\x7f")
	isBytes(t, "PutUint(128)", code.PutUint(128), "\x80\x01")
	isBytes(t, "PutUint(300)", code.PutUint(300), "\xac\x02")
	isBytes(t, "PutUint(16383)", code.PutUint(16383), "\xff\x7f")
	isBytes(t, "PutUint(16384)", code.PutUint(16384), "\x80\x80\x01")
	isBytes(t, "PutUint(2^63)", code.PutUint(1<<63), strings.Repeat("\x80", 9)+"\x01")
	isBytes(t, "PutUint(2^63-1)", code.PutUint(1<<63-1), strings.Repeat("\xff", 8)+"\x7f")
	isBytes(t, "PutUint(2^64-1)", code.PutUint(math.MaxUint64), strings.Repeat("\xff", 9)+"\x01")
	for _, n := range uints() {
		isBytes(t, "PutUint", code.PutUint(n), short(n))
	}
}

// P2.1: the chapter's examples, and the edges of what is no short number.
func TestUintExamples(t *testing.T) {
	isUint(t, "\x00", 0, 1, api.OK)
	isUint(t, "\x7f", 127, 1, api.OK)
	isUint(t, "\x80\x01", 128, 2, api.OK)
	isUint(t, "\xac\x02", 300, 2, api.OK)
	isUint(t, "\xac\x02\xff", 300, 2, api.OK)
	isUint(t, "\x00\x80", 0, 1, api.OK)
	isUint(t, "\x80\x00", 0, 0, api.ErrForm)
	isUint(t, "\x80\x00\x01", 0, 0, api.ErrForm)
	isUint(t, "\xff\xff\x00", 0, 0, api.ErrForm)
	isUint(t, "\x80", 0, 0, api.ErrShort)
	isUint(t, "", 0, 0, api.ErrShort)
	nine := strings.Repeat("\xff", 9)
	isUint(t, nine, 0, 0, api.ErrShort)
	isUint(t, nine+"\x00", 0, 0, api.ErrForm)
	isUint(t, nine+"\x01", math.MaxUint64, 10, api.OK)
	isUint(t, nine+"\x01\x01", math.MaxUint64, 10, api.OK)
	isUint(t, nine+"\x02", 0, 0, api.ErrForm)
	isUint(t, nine+"\x7f", 0, 0, api.ErrForm)
	isUint(t, nine+"\x80", 0, 0, api.ErrForm)
	isUint(t, nine+"\x81", 0, 0, api.ErrForm)
	isUint(t, nine+"\xff", 0, 0, api.ErrForm)
	isUint(t, nine+"\xff\x01", 0, 0, api.ErrForm)
	isUint(t, strings.Repeat("\x80", 9), 0, 0, api.ErrShort)
	isUint(t, strings.Repeat("\x80", 9)+"\x01", 1<<63, 10, api.OK)
	isUint(t, strings.Repeat("\x80", 10), 0, 0, api.ErrForm)
	isUint(t, strings.Repeat("\x80", 100000), 0, 0, api.ErrForm)
}

// P2.1, P2.5: all strings of two bytes, and strings of up to 14 bytes that are, or nearly are, short numbers.
func TestUintHeldAgainstLibrary(t *testing.T) {
	l := every("\x00\x01\x02\x7f\x80\x81\xff", 4)
	for n := range 1 << 16 {
		l = append(l, string([]byte{byte(n), byte(n >> 8)}))
	}
	for n := range 12 {
		for _, end := range every("\x00\x01\x02\x7f\x80\xff", 2) {
			l = append(l, strings.Repeat("\x80", n)+end, strings.Repeat("\xff", n)+end)
		}
	}
	for _, s := range l {
		n, size, e := wantUint(s)
		isUint(t, s, n, size, e)
		if e == api.OK {
			isBytes(t, "PutUint of what was read", code.PutUint(n), s[:size])
		}
	}
}

// P2.2: the chapter's examples, and known encodings.
func TestPutOrd(t *testing.T) {
	zeros, ones := strings.Repeat("\x00", 7), strings.Repeat("\xff", 7)
	isBytes(t, "PutOrd(0)", code.PutOrd(0), "\x80"+zeros)
	isBytes(t, "PutOrd(-1)", code.PutOrd(-1), "\x7f"+ones)
	isBytes(t, "PutOrd(1)", code.PutOrd(1), "\x80"+zeros[:6]+"\x01")
	isBytes(t, "PutOrd(least)", code.PutOrd(math.MinInt64), "\x00"+zeros)
	isBytes(t, "PutOrd(greatest)", code.PutOrd(math.MaxInt64), "\xff"+ones)
	isBytes(t, "PutOrd(0x0102030405060708)", code.PutOrd(0x0102030405060708), "\x81\x02\x03\x04\x05\x06\x07\x08")
	for _, n := range ints() {
		want := string(binary.BigEndian.AppendUint64(nil, uint64(n)^1<<63))
		isBytes(t, "PutOrd", code.PutOrd(n), want)
	}
}

// P2.2: any eight bytes, what follows them, and fewer than eight.
func TestOrd(t *testing.T) {
	isOrd(t, "", 0, api.ErrShort)
	isOrd(t, "\x80\x00\x00\x00\x00\x00\x00", 0, api.ErrShort)
	isOrd(t, "\xff\xff\xff\xff\xff\xff\xff", 0, api.ErrShort)
	isOrd(t, strings.Repeat("\x00", 8), math.MinInt64, api.OK)
	isOrd(t, strings.Repeat("\xff", 8), math.MaxInt64, api.OK)
	isOrd(t, "\x81\x02\x03\x04\x05\x06\x07\x08\x09", 0x0102030405060708, api.OK)
	r := source()
	for range 1000 {
		s := some(r, 8)
		n := int64(binary.BigEndian.Uint64([]byte(s)) ^ 1<<63)
		for _, tail := range tails {
			isOrd(t, s+tail, n, api.OK)
		}
		isBytes(t, "PutOrd of what was read", code.PutOrd(n), s)
		for i := range s {
			isOrd(t, s[:i], 0, api.ErrShort)
		}
	}
}

// slowText writes an ordered text byte by byte.
func slowText(t string) string {
	var b []byte
	for i := range len(t) {
		b = append(b, t[i])
		if t[i] == 0 {
			b = append(b, 255)
		}
	}
	return string(append(b, 0, 1))
}

// P2.3: the chapter's examples, and known encodings.
func TestPutText(t *testing.T) {
	isBytes(t, "PutText(a 0 b)", code.PutText("a\x00b"), "a\x00\xffb\x00\x01")
	isBytes(t, "PutText(empty)", code.PutText(""), "\x00\x01")
	isBytes(t, "PutText(0)", code.PutText("\x00"), "\x00\xff\x00\x01")
	isBytes(t, "PutText(255)", code.PutText("\xff"), "\xff\x00\x01")
	isBytes(t, "PutText(0 1)", code.PutText("\x00\x01"), "\x00\xff\x01\x00\x01")
	isBytes(t, "PutText(0 255)", code.PutText("\x00\xff"), "\x00\xff\xff\x00\x01")
	isBytes(t, "PutText(0 0)", code.PutText("\x00\x00"), "\x00\xff\x00\xff\x00\x01")
	for _, s := range texts() {
		isBytes(t, "PutText", code.PutText(s), slowText(s))
	}
}

// P2.3: the chapter's examples, and the edges of what is no ordered text.
func TestTextExamples(t *testing.T) {
	isText(t, "\x00\x02", "", 0, api.ErrForm)
	isText(t, "a", "", 0, api.ErrShort)
	isText(t, "\x00", "", 0, api.ErrShort)
	isText(t, "", "", 0, api.ErrShort)
	isText(t, "\x00\x00", "", 0, api.ErrForm)
	isText(t, "\x00\xfe", "", 0, api.ErrForm)
	isText(t, "\x00\x00\x01", "", 0, api.ErrForm)
	isText(t, "abc\x00\x02\x00\x01", "", 0, api.ErrForm)
	isText(t, "a\x00\xff", "", 0, api.ErrShort)
	isText(t, "a\x00\xff\x00", "", 0, api.ErrShort)
	isText(t, "a\x00\xff\xff\xff", "", 0, api.ErrShort)
	isText(t, "a\x00\xff\x00\x03", "", 0, api.ErrForm)
	isText(t, "\x00\x01", "", 2, api.OK)
	isText(t, "\x00\x01\x00\x02", "", 2, api.OK)
	isText(t, "\xff\x00\x01", "\xff", 3, api.OK)
	isText(t, "\x01\x00\x01", "\x01", 3, api.OK)
	isText(t, "\x00\xff\x01\x00\x01", "\x00\x01", 5, api.OK)
	isText(t, "a\x00\xffb\x00\x01c", "a\x00b", 6, api.OK)
}

// P2.3, P2.5: all strings of up to six of the bytes that matter, told apart by the list of the encodings that are long enough to matter.
func TestTextHeldAgainstAllEncodings(t *testing.T) {
	const alphabet, most = "\x00\x01\x02a\xff", 6
	whole, cut := map[string]string{}, map[string]bool{}
	for _, text := range every(alphabet, most) {
		s := slowText(text)
		whole[s] = text
		for i := range s {
			cut[s[:i]] = true
		}
	}
	for _, s := range every(alphabet, most) {
		text, size, e := "", 0, api.ErrForm
		if cut[s] {
			e = api.ErrShort
		}
		for i := range len(s) + 1 {
			if x, ok := whole[s[:i]]; ok {
				text, size, e = x, i, api.OK
				break
			}
		}
		isText(t, s, text, size, e)
		if e == api.OK {
			isBytes(t, "PutText of what was read", code.PutText(text), s[:size])
		}
	}
}

// P2.3: a byte 0 followed by each of the others.
func TestTextByteBehindZero(t *testing.T) {
	for c := range 256 {
		s := "x\x00" + string([]byte{byte(c)}) + "\x00\x01"
		switch c {
		case 1:
			isText(t, s, "x", 3, api.OK)
		case 255:
			isText(t, s, "x\x00", 5, api.OK)
		default:
			isText(t, s, "", 0, api.ErrForm)
		}
	}
}

// P2.4: the chapter's examples, and strings at the lengths where the length's own bytes become more.
func TestPutField(t *testing.T) {
	isBytes(t, "PutField(ab)", code.PutField("ab"), "\x02ab")
	isBytes(t, "PutField(empty)", code.PutField(""), "\x00")
	isBytes(t, "PutField(0)", code.PutField("\x00"), "\x01\x00")
	isBytes(t, "PutField(255 0)", code.PutField("\xff\x00"), "\x02\xff\x00")
	for _, s := range append(texts(), strings.Repeat("\x00\xff", 50000)) {
		isBytes(t, "PutField", code.PutField(s), short(uint64(len(s)))+s)
	}
}

// P2.4: the chapter's examples, and the order of the errors.
func TestFieldExamples(t *testing.T) {
	isField(t, "\x02a", 2, "", 0, api.ErrShort)
	isField(t, "\x03a", 2, "", 0, api.ErrLong)
	isField(t, "\x00", 0, "", 1, api.OK)
	isField(t, "\x02ab", 2, "ab", 3, api.OK)
	isField(t, "\x02abc", 2, "ab", 3, api.OK)
	isField(t, "\x02ab", 1, "", 0, api.ErrLong)
	isField(t, "\x02ab", math.MaxInt, "ab", 3, api.OK)
	isField(t, "", 0, "", 0, api.ErrShort)
	isField(t, "", -1, "", 0, api.ErrShort)
	isField(t, "\x80", -1, "", 0, api.ErrShort)
	isField(t, "\x80\x00", -1, "", 0, api.ErrForm)
	isField(t, "\x80\x00", 10, "", 0, api.ErrForm)
	isField(t, "\x00", -1, "", 0, api.ErrLong)
	isField(t, "\x00", math.MinInt, "", 0, api.ErrLong)
	isField(t, "\x01", -1, "", 0, api.ErrLong)
	isField(t, "\x01", 1, "", 0, api.ErrShort)
}

// P2.4: lengths far above what there is, up to the greatest numbers.
func TestFieldGreatLengths(t *testing.T) {
	for _, n := range []uint64{1 << 31, 1 << 32, math.MaxInt64 - 1, math.MaxInt64} {
		isField(t, short(n)+"abc", int(n), "", 0, api.ErrShort)
		isField(t, short(n)+"abc", int(n-1), "", 0, api.ErrLong)
		isField(t, short(n)+"abc", math.MaxInt, "", 0, api.ErrShort)
	}
	for _, n := range []uint64{1 << 63, 1<<63 + 1, math.MaxUint64 - 1, math.MaxUint64} {
		isField(t, short(n)+"abc", math.MaxInt, "", 0, api.ErrLong)
		isField(t, short(n)+"abc", -1, "", 0, api.ErrLong)
		isField(t, short(n), 0, "", 0, api.ErrLong)
	}
	isField(t, strings.Repeat("\xff", 9)+"\x02", math.MaxInt, "", 0, api.ErrForm)
}

// P2.4, P2.5: many strings and many bounds.
func TestFieldHeldAgainstLibrary(t *testing.T) {
	for _, s := range every("\x00\x01\x02\x03\x7f\x80\xffa", 4) {
		for _, most := range []int{math.MinInt, -1, 0, 1, 2, 3, 127, 128, math.MaxInt} {
			text, size, e := wantField(s, most)
			isField(t, s, most, text, size, e)
			if e == api.OK {
				isBytes(t, "PutField of what was read", code.PutField(text), s[:size])
			}
		}
	}
}

// P2.5: every value comes back, whatever follows it.
func TestRoundTrip(t *testing.T) {
	for _, tail := range tails {
		for _, n := range uints() {
			s := code.PutUint(n)
			isUint(t, s+tail, n, len(s), api.OK)
		}
		for _, n := range ints() {
			isOrd(t, code.PutOrd(n)+tail, n, api.OK)
		}
		for _, x := range texts() {
			s := code.PutText(x)
			isText(t, s+tail, x, len(s), api.OK)
			s = code.PutField(x)
			isField(t, s+tail, len(x), x, len(s), api.OK)
			isField(t, s+tail, math.MaxInt, x, len(s), api.OK)
		}
	}
}

// P2.5: long values too.
func TestRoundTripLong(t *testing.T) {
	for _, x := range []string{strings.Repeat("\x00", 1<<20), strings.Repeat("\xff", 1<<20), some(source(), 1<<20)} {
		s := code.PutText(x)
		isText(t, s+"a", x, len(s), api.OK)
		s = code.PutField(x)
		isField(t, s+"a", 1<<20, x, len(s), api.OK)
		isField(t, s+"a", 1<<20-1, "", 0, api.ErrLong)
	}
}

// P2.6: ordered numbers are in the order of the numbers.
func TestOrderOfNumbers(t *testing.T) {
	l := ints()
	for i, n := range l {
		for _, m := range l[i+1:] {
			if code.PutOrd(n) >= code.PutOrd(m) {
				t.Fatalf("%d is less than %d, the ordered number of one is not less than that of the other", n, m)
			}
		}
	}
}

// P2.6: ordered texts are in the order of the strings, whatever follows each of them.
func TestOrderOfTexts(t *testing.T) {
	var l []string
	for _, x := range texts() {
		if len(x) <= 64 {
			l = append(l, x)
		}
	}
	for i, x := range l {
		a := code.PutText(x)
		for _, y := range l[i+1:] {
			b := code.PutText(y)
			for _, tail := range []string{"", "\x00", "\x00\xff", "\xff\xff\xff"} {
				if a+tail >= b {
					t.Fatalf("% x is less than % x, its ordered text with % x behind it is not less", x, y, tail)
				}
			}
		}
	}
}

// P2.6: no ordered text begins with another one.
func TestNoTextBeginsWithAnother(t *testing.T) {
	seen := map[string]string{}
	for _, x := range texts() {
		seen[code.PutText(x)] = x
	}
	if len(seen) != len(texts()) {
		t.Errorf("%d strings have %d ordered texts", len(texts()), len(seen))
	}
	for s := range seen {
		for i := range len(s) {
			if x, ok := seen[s[:i]]; ok {
				t.Errorf("% x begins with the ordered text of % x", brief(s), brief(x))
			}
		}
	}
}

// P2.7: a lesser number has no more bytes, and one of the count of bytes that the greatest number of that count says.
func TestLengths(t *testing.T) {
	last := 0
	for _, n := range uints() {
		size := len(code.PutUint(n))
		if size < last {
			t.Errorf("%d has %d bytes, a lesser number %d", n, size, last)
		}
		last = size
	}
	for i := 1; i < 10; i++ {
		below, from := len(code.PutUint(1<<(7*i)-1)), len(code.PutUint(1<<(7*i)))
		if below != i || from != i+1 {
			t.Errorf("2^%d - 1 has %d bytes, want %d; 2^%d has %d, want %d", 7*i, below, i, 7*i, from, i+1)
		}
	}
}

// P2.7: fields behind one another are read one after another.
func TestSequences(t *testing.T) {
	var all strings.Builder
	for _, x := range texts() {
		all.WriteString(code.PutField(x))
	}
	s := all.String()
	for _, x := range texts() {
		text, size, e := code.Field(s, 1<<20)
		if text != x || e != api.OK {
			t.Fatalf("the next field is % x, %v, want % x", brief(text), e, brief(x))
		}
		s = s[size:]
	}
	isField(t, s, 1<<20, "", 0, api.ErrShort)
}

// P2.7: what is cut anywhere ends too early.
func TestPrefixes(t *testing.T) {
	for _, n := range uints() {
		s := code.PutUint(n)
		for i := range s {
			isUint(t, s[:i], 0, 0, api.ErrShort)
		}
	}
	for _, x := range texts() {
		if len(x) > 1000 {
			continue
		}
		s := code.PutText(x)
		for i := range len(s) {
			isText(t, s[:i], "", 0, api.ErrShort)
		}
		s = code.PutField(x)
		for i := range len(s) {
			isField(t, s[:i], len(x), "", 0, api.ErrShort)
			isField(t, s[:i], math.MaxInt, "", 0, api.ErrShort)
		}
	}
}

// shares tells whether two strings lie in the same memory.
func shares(a, b string) bool {
	if a == "" || b == "" {
		return false
	}
	p, q := uintptr(unsafe.Pointer(unsafe.StringData(a))), uintptr(unsafe.Pointer(unsafe.StringData(b)))
	return p < q+uintptr(len(b)) && q < p+uintptr(len(a))
}

// The rules that hold everywhere: a result is new memory.
func TestNewMemory(t *testing.T) {
	for _, x := range []string{"ab", "a longer text, with some words in it", "zeros\x00in\x00it"} {
		for call, s := range map[string]string{"PutText": code.PutText(x), "PutField": code.PutField(x)} {
			if shares(s, x) {
				t.Errorf("%s shares memory with its argument", call)
			}
		}
		s := code.PutText(x)
		if text, _, _ := code.Text(s); shares(text, s) {
			t.Error("Text shares memory with its argument")
		}
		s = code.PutField(x)
		if text, _, _ := code.Field(s, 100); shares(text, s) {
			t.Error("Field shares memory with its argument")
		}
	}
}

// P2: the same calls have the same results, whatever was called between them.
func TestSameAgain(t *testing.T) {
	for _, s := range every("\x00\x01\x02\x80\xff", 4) {
		for range 2 {
			n, size, e := wantUint(s)
			isUint(t, s, n, size, e)
			code.Text(s)
			text, size, e := wantField(s, 2)
			isField(t, s, 2, text, size, e)
			code.Ord(s)
		}
	}
}
