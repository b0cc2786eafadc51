package frame_test

import (
	"encoding/binary"
	"hash/crc32"
	"math"
	"math/rand/v2"
	"slices"
	"strings"
	"testing"
	"unsafe"

	"freshet/api"
	"freshet/frame"
)

// castagnoli is the library's own CRC-32C, against which the checksums of frames are held.
var castagnoli = crc32.MakeTable(crc32.Castagnoli)

// edges are the lengths of payloads that matter: where the length's own bytes become more, and the greatest one.
var edges = []int{0, 1, 2, 126, 127, 128, 129, 16382, 16383, 16384, 16385, 65535, 65536}

// source returns numbers that look random and are the same in each run.
func source() *rand.Rand { return rand.New(rand.NewPCG(7, 8)) }

// some returns n bytes.
func some(r *rand.Rand, n int) string {
	b := make([]byte, n)
	for i := range b {
		b[i] = byte(r.Uint32())
	}
	return string(b)
}

// every returns all strings of at most so many of these bytes, the empty one first.
func every(alphabet string, most int) []string {
	l := []string{""}
	for from := 0; most > 0; most-- {
		to := len(l)
		for _, s := range l[from:to] {
			for i := range len(alphabet) {
				l = append(l, s+alphabet[i:i+1])
			}
		}
		from = to
	}
	return l
}

// payloads returns ordinary payloads, every one of one byte, all of up to three of the bytes that matter, and those of up to 40 bytes; none of more.
func payloads() []string {
	l := []string{"ab", "a payload of words, and more of them", "é€", "\xc3(", "\x02a", slowFrame("a"), slowFrame(""), strings.Repeat("\x00", 32), strings.Repeat("\xff", 32)}
	for c := range 256 {
		l = append(l, string([]byte{byte(c)}))
	}
	l = append(l, every("\x00\x01\x02a\x80\xff", 3)...)
	r := source()
	for n := range 41 {
		l = append(l, some(r, n))
	}
	return l
}

// long returns payloads of all the lengths that matter.
func long() []string {
	var l []string
	r := source()
	for _, n := range edges {
		l = append(l, some(r, n), strings.Repeat("\x00", n), strings.Repeat("\xff", n))
	}
	return l
}

// nothings are bytes with which no frame starts, and what Get says of them.
var nothings = []struct {
	s string
	e api.Errno
}{
	{"\x80", api.ErrShort},
	{strings.Repeat("\x80", 9), api.ErrShort},
	{strings.Repeat("\xff", 9), api.ErrShort},
	{"\x00", api.ErrShort},
	{"\x02a", api.ErrShort},
	{"\x01a\x30\x43\xd0", api.ErrShort},
	{"\x80\x80\x04", api.ErrShort},
	{"\x80\x00", api.ErrForm},
	{"\x81\x00a\x00\x00\x00\x00", api.ErrForm},
	{strings.Repeat("\xff", 10), api.ErrForm},
	{strings.Repeat("\xff", 9) + "\x02", api.ErrForm},
	{"\x00\x00\x00\x00\x00", api.ErrForm},
	{"\x01aaaaa", api.ErrForm},
	{"\x81\x80\x04", api.ErrLong},
	{strings.Repeat("\xff", 9) + "\x01", api.ErrLong},
}

// tails are what may follow a frame.
func tails() []string {
	l := []string{"", "\x00", "a", "\xff", "and more bytes", slowFrame(""), slowFrame("a"), strings.Repeat("\x80", 20), "\x00\x51\x53\x7d"}
	for _, n := range nothings {
		l = append(l, n.s)
	}
	return l
}

// short is the library's short number.
func short(n uint64) string { return string(binary.AppendUvarint(nil, n)) }

// sealed is a frame's bytes with their checksum behind them, right or wrong as the length may be.
func sealed(body string) string {
	return string(binary.LittleEndian.AppendUint32([]byte(body), crc32.Checksum([]byte(body), castagnoli)))
}

// slowFrame writes a frame by the library's means.
func slowFrame(p string) string { return sealed(short(uint64(len(p))) + p) }

// wantUint works out what a short number at the start of s is, by holding every beginning of s against the short number of what the library makes of it.
func wantUint(s string) (uint64, int, api.Errno) {
	cut := len(s) < 10
	for i := range min(len(s), 10) {
		n, size := binary.Uvarint([]byte(s[:i+1]))
		if size == i+1 && short(n) == s[:i+1] {
			return n, size, api.OK
		}
		cut = cut && s[i] >= 128
	}
	if cut {
		return 0, 0, api.ErrShort
	}
	return 0, 0, api.ErrForm
}

// wantGet works out what Get answers.
func wantGet(s string) (string, int, api.Errno) {
	n, head, e := wantUint(s)
	switch {
	case e != api.OK:
		return "", 0, e
	case n > 65536:
		return "", 0, api.ErrLong
	case head+int(n)+4 > len(s):
		return "", 0, api.ErrShort
	}
	p := s[head : head+int(n)]
	if f := slowFrame(p); strings.HasPrefix(s, f) {
		return p, len(f), api.OK
	}
	return "", 0, api.ErrForm
}

// wantAll works out what All answers.
func wantAll(s string) (l []string, upto int, e api.Errno) {
	for upto < len(s) {
		p, size, e := wantGet(s[upto:])
		if e != api.OK {
			return l, upto, e
		}
		l, upto = append(l, p), upto+size
	}
	return l, upto, api.OK
}

// brief keeps a long string out of a test's words.
func brief(s string) string {
	if len(s) > 60 {
		return s[:60] + ".."
	}
	return s
}

func isPut(t *testing.T, p, want string) {
	t.Helper()
	if s, e := frame.Put(p); s != want || e != api.OK {
		t.Errorf("Put of %d bytes % x: % x, %v, want % x", len(p), brief(p), brief(s), e, brief(want))
	}
}

func isGet(t *testing.T, s, p string, size int, e api.Errno) {
	t.Helper()
	gotP, gotSize, gotE := frame.Get(s)
	if gotP != p || gotSize != size || gotE != e {
		t.Errorf("Get of %d bytes % x: %d bytes % x, %d, %v, want %d bytes % x, %d, %v", len(s), brief(s), len(gotP), brief(gotP), gotSize, gotE, len(p), brief(p), size, e)
	}
}

func isAll(t *testing.T, s string, l []string, upto int, e api.Errno) {
	t.Helper()
	gotL, gotUpto, gotE := frame.All(s)
	if !slices.Equal(gotL, l) || gotUpto != upto || gotE != e {
		t.Errorf("All of %d bytes % x: %d payloads, %d, %v, want %d payloads, %d, %v", len(s), brief(s), len(gotL), gotUpto, gotE, len(l), upto, e)
	}
}

// P4.1: the chapter's examples, and the edges of lengths.
func TestSizeExamples(t *testing.T) {
	for n, want := range map[int]int{
		0: 5, 1: 6, 127: 132, 128: 134, 16383: 16389, 16384: 16391, 65535: 65542, 65536: 65543,
		65537: 0, 65538: 0, 131072: 0, 2097151: 0, 2097152: 0, 1 << 31: 0, 1 << 32: 0, 1<<32 + 1: 0, math.MaxInt - 3: 0, math.MaxInt: 0,
		-1: 0, -4: 0, -5: 0, -128: 0, -65536: 0, -1 << 32: 0, math.MinInt + 1: 0, math.MinInt: 0,
	} {
		if got := frame.Size(n); got != want {
			t.Errorf("Size(%d): %d, want %d", n, got, want)
		}
	}
}

// P4.1: every length of a payload, and many about them.
func TestSizeOfEveryLength(t *testing.T) {
	for n := -70000; n <= 140000; n++ {
		want := 0
		if 0 <= n && n <= 65536 {
			want = len(short(uint64(n))) + n + 4
		}
		if got := frame.Size(n); got != want {
			t.Fatalf("Size(%d): %d, want %d", n, got, want)
		}
	}
}

// P4.1: the chapter's examples.
func TestPutExamples(t *testing.T) {
	isPut(t, "", "\x00\x51\x53\x7d\x52")
	if s, e := frame.Put("a"); len(s) != 6 || s[:2] != "\x01a" || e != api.OK {
		t.Errorf("Put(a): % x, %v", s, e)
	}
}

// P4.1: ordinary payloads, and those of the lengths that matter; Size tells how many bytes their frames have.
func TestPut(t *testing.T) {
	for _, p := range append(payloads(), long()...) {
		isPut(t, p, slowFrame(p))
		if s, _ := frame.Put(p); len(s) != frame.Size(len(p)) {
			t.Errorf("the frame of %d bytes has %d, Size tells %d", len(p), len(s), frame.Size(len(p)))
		}
	}
}

// P4.1: payloads that are too long.
func TestPutTooLong(t *testing.T) {
	for _, n := range []int{65537, 65538, 65541, 131072, 1 << 20} {
		for _, c := range []string{"\x00", "x", "\xff"} {
			if s, e := frame.Put(strings.Repeat(c, n)); s != "" || e != api.ErrLong {
				t.Errorf("Put of %d bytes: %d bytes, %v", n, len(s), e)
			}
		}
	}
}

// P4.2: the chapter's examples, and bytes with which no frame starts.
func TestGetExamples(t *testing.T) {
	isGet(t, "", "", 0, api.ErrShort)
	isGet(t, "\x80\x00", "", 0, api.ErrForm)
	isGet(t, "\x81\x80\x04", "", 0, api.ErrLong)
	isGet(t, "\x01a", "", 0, api.ErrShort)
	isGet(t, "\x00\x51\x53\x7d\x52", "", 5, api.OK)
	for _, n := range nothings {
		isGet(t, n.s, "", 0, n.e)
	}
}

// P4.2: what is no short number is told as package code tells it, whatever follows.
func TestGetNoShortNumber(t *testing.T) {
	for n := range 10 {
		for _, c := range []string{"\x80", "\x81", "\xff"} {
			s := strings.Repeat(c, n)
			isGet(t, s, "", 0, api.ErrShort)
			if n > 0 {
				isGet(t, s+"\x00", "", 0, api.ErrForm)
				isGet(t, s+"\x00"+slowFrame("a"), "", 0, api.ErrForm)
			}
		}
	}
	for _, end := range []string{"\x02", "\x7f", "\x80", "\xff"} {
		isGet(t, strings.Repeat("\x80", 9)+end, "", 0, api.ErrForm)
		isGet(t, strings.Repeat("\xff", 9)+end+strings.Repeat("\x00", 70000), "", 0, api.ErrForm)
	}
	// The length is right but for its form, and the checksum is right.
	isGet(t, sealed("\x80\x00"), "", 0, api.ErrForm)
	isGet(t, sealed("\x81\x00a"), "", 0, api.ErrForm)
	isGet(t, sealed("\x81\x80\x00a"), "", 0, api.ErrForm)
}

// P4.2: a length above the limit comes ahead of bytes that end too early and of a wrong checksum.
func TestGetTooLong(t *testing.T) {
	for _, n := range []uint64{
		65537, 65538, 131072, 1<<31 - 1, 1 << 31, 1<<32 - 1, 1 << 32, 1<<32 + 1, 1<<48 + 1,
		math.MaxInt64 - 7, math.MaxInt64 - 4, math.MaxInt64 - 3, math.MaxInt64, 1 << 63, 1<<63 + 1, math.MaxUint64 - 4, math.MaxUint64 - 3, math.MaxUint64,
	} {
		isGet(t, short(n), "", 0, api.ErrLong)
		isGet(t, sealed(short(n)), "", 0, api.ErrLong)
		isGet(t, sealed(short(n)+"a"), "", 0, api.ErrLong)
		isGet(t, short(n)+strings.Repeat("a", 70000), "", 0, api.ErrLong)
		isAll(t, slowFrame("a")+sealed(short(n)+"a"), []string{"a"}, 6, api.ErrLong)
	}
	body := short(65537) + strings.Repeat("x", 65537)
	isGet(t, sealed(body), "", 0, api.ErrLong)
	isGet(t, body, "", 0, api.ErrLong)
}

// P4.2, P4.4: frames are cut at each of their bytes.
func TestGetCut(t *testing.T) {
	for _, p := range payloads() {
		s := slowFrame(p)
		for i := range len(s) {
			isGet(t, s[:i], "", 0, api.ErrShort)
		}
	}
	r := source()
	for _, n := range edges {
		s := slowFrame(some(r, n))
		for i := range len(s) {
			if _, _, e := frame.Get(s[:i]); e != api.ErrShort {
				t.Fatalf("Get of %d of the %d bytes of a frame: %v", i, len(s), e)
			}
		}
	}
}

// P4.2: every other byte in each place of a checksum.
func TestGetWrongChecksum(t *testing.T) {
	for _, p := range []string{"", "a", "\x00", "a payload of words, and more of them", some(source(), 130)} {
		s := slowFrame(p)
		for i := len(s) - 4; i < len(s); i++ {
			for c := range 256 {
				if byte(c) != s[i] {
					isGet(t, s[:i]+string([]byte{byte(c)})+s[i+1:], "", 0, api.ErrForm)
				}
			}
		}
	}
}

// P4.2: checksums of other bytes than those that count, or in another order.
func TestGetOtherChecksum(t *testing.T) {
	for _, p := range []string{"", "a", "ab", "a payload of words, and more of them", some(source(), 130)} {
		body := short(uint64(len(p))) + p
		n := crc32.Checksum([]byte(body), castagnoli)
		for _, wrong := range []string{
			string(binary.BigEndian.AppendUint32(nil, n)),
			string(binary.LittleEndian.AppendUint32(nil, ^n)),
			string(binary.LittleEndian.AppendUint32(nil, crc32.Checksum([]byte(p), castagnoli))),
			string(binary.LittleEndian.AppendUint32(nil, crc32.ChecksumIEEE([]byte(body)))),
			"\x00\x00\x00\x00", "\xff\xff\xff\xff",
		} {
			isGet(t, body+wrong, "", 0, api.ErrForm)
		}
	}
}

// P4.2, P4.4: what was put comes back, whatever follows it.
func TestRoundTrip(t *testing.T) {
	l := tails()
	for _, p := range payloads() {
		s, _ := frame.Put(p)
		for _, tail := range l {
			isGet(t, s+tail, p, len(s), api.OK)
		}
	}
	for _, p := range long() {
		s, _ := frame.Put(p)
		isGet(t, s, p, len(s), api.OK)
		isGet(t, s+"\xff", p, len(s), api.OK)
		isGet(t, s+s, p, len(s), api.OK)
	}
}

// P4.3: the chapter's example, and no bytes at all.
func TestAllExamples(t *testing.T) {
	a, b := slowFrame("a"), slowFrame("b")
	isAll(t, a+b+"\x02a", []string{"a", "b"}, 12, api.ErrShort)
	isAll(t, "", nil, 0, api.OK)
	isAll(t, a, []string{"a"}, 6, api.OK)
	isAll(t, a+b, []string{"a", "b"}, 12, api.OK)
	isAll(t, b+a+slowFrame(""), []string{"b", "a", ""}, 17, api.OK)
	isAll(t, "\x02a", nil, 0, api.ErrShort)
	// Frames behind bytes that are none are not found.
	isAll(t, a+"\x80\x00"+b, []string{"a"}, 6, api.ErrForm)
	isAll(t, a+"\x81\x80\x04"+b, []string{"a"}, 6, api.ErrLong)
	isAll(t, a+"\x01bcccc"+b, []string{"a"}, 6, api.ErrForm)
}

// sequences returns lists of payloads: none, one, and some of unlike lengths.
func sequences() [][]string {
	r := source()
	return [][]string{
		nil, {""}, {"a"}, {"", "", ""}, {"a", "b"}, {"a", "", "b"},
		{"one", "two", slowFrame("three"), "four"},
		{some(r, 127), some(r, 128), "", some(r, 129)},
		{some(r, 300), "a", some(r, 1000), ""},
	}
}

// joined is the frames of l, one after another, and the offsets of their ends.
func joined(l []string) (s string, ends []int) {
	for _, p := range l {
		s += slowFrame(p)
		ends = append(ends, len(s))
	}
	return s, ends
}

// P4.3, P4.4: sequences are cut at every offset.
func TestAllCut(t *testing.T) {
	for _, l := range sequences() {
		s, ends := joined(l)
		for i := range len(s) + 1 {
			many, upto, e := 0, 0, api.ErrShort
			for _, end := range ends {
				if end <= i {
					many, upto = many+1, end
				}
			}
			if upto == i {
				e = api.OK
			}
			isAll(t, s[:i], l[:many], upto, e)
		}
	}
}

// P4.3, P4.4: the longest frames, cut about their edges.
func TestAllCutLong(t *testing.T) {
	r := source()
	l := []string{some(r, 65536), "a", some(r, 16384), some(r, 65535)}
	s, ends := joined(l)
	isAll(t, s, l, len(s), api.OK)
	for many, end := range ends[:len(ends)-1] {
		isAll(t, s[:end], l[:many+1], end, api.OK)
		for _, more := range []int{1, 2, 3, 4, 5} {
			isAll(t, s[:end+more], l[:many+1], end, api.ErrShort)
		}
		isAll(t, s[:end-1], l[:many], end-frame.Size(len(l[many])), api.ErrShort)
	}
}

// P4.3, P4.6: frames followed by bytes that are none, or by frames.
func TestAllFollowed(t *testing.T) {
	for _, l := range sequences() {
		s, _ := joined(l)
		for _, n := range nothings {
			isAll(t, s+n.s, l, len(s), n.e)
		}
		for _, tail := range tails() {
			behind, upto, e := frame.All(tail)
			isAll(t, s+tail, slices.Concat(l, behind), len(s)+upto, e)
		}
		for _, m := range sequences() {
			behind, _ := joined(m)
			isAll(t, s+behind, slices.Concat(l, m), len(s)+len(behind), api.OK)
		}
	}
}

// P4.3: a frame that is damaged ends what is read, wherever in a sequence it stands.
func TestAllDamaged(t *testing.T) {
	for _, l := range sequences() {
		s, ends := joined(l)
		from := 0
		for i, end := range ends {
			b := []byte(s)
			b[end-1] ^= 1
			isAll(t, string(b), l[:i], from, api.ErrForm)
			from = end
		}
	}
}

// P4.3: many frames.
func TestAllMany(t *testing.T) {
	const many = 50000
	a := slowFrame("a")
	s := strings.Repeat(a, many)
	l := slices.Repeat([]string{"a"}, many)
	isAll(t, s, l, len(s), api.OK)
	isAll(t, s+"\x01", l, len(s), api.ErrShort)
	isAll(t, s[:len(s)-1], l[1:], len(s)-len(a), api.ErrShort)
}

// inverted is s with those of the 32 bits from bit at on inverted that are set in pattern; the bits of each byte are counted from the lowest one, and those behind the end of s are left out.
func inverted(s string, at int, pattern uint32) string {
	b := []byte(s)
	for i := range 32 {
		if pattern>>i&1 == 1 && at+i < 8*len(b) {
			b[(at+i)/8] ^= 1 << ((at + i) % 8)
		}
	}
	return string(b)
}

// P4.5: every burst of up to two bits, and every run of bits, in short frames.
func TestBurstsInShortFrames(t *testing.T) {
	patterns := []uint32{1}
	for i := 1; i < 32; i++ {
		patterns = append(patterns, 1|1<<i, 1<<i<<1-1)
	}
	for _, p := range []string{"", "a", "\x00", "\xff\xff", "a payload"} {
		s := slowFrame(p)
		for at := 8; at < 8*len(s); at++ {
			for _, pattern := range patterns {
				isGet(t, inverted(s, at, pattern), "", 0, api.ErrForm)
			}
		}
	}
}

// P4.5: bursts of many patterns in frames of all the lengths that matter, about their edges and between them.
func TestBursts(t *testing.T) {
	r := source()
	for _, n := range append([]int{40, 500}, edges...) {
		s := slowFrame(some(r, n))
		first, end := 8*len(short(uint64(n))), 8*len(s)
		places := []int{first, first + 1, end - 1, end - 31, end - 32, end - 33, end - 40, end - 63}
		for range 20 {
			places = append(places, first+r.IntN(end-first))
		}
		for _, at := range places {
			for _, pattern := range []uint32{1, math.MaxUint32, 1 | 1<<31, r.Uint32() | 1, r.Uint32() | 1} {
				if at >= first {
					isGet(t, inverted(s, at, pattern), "", 0, api.ErrForm)
				}
			}
		}
	}
}

// P4.6: whenever Get succeeds, Put of the payload is what was read; strings of all kinds, with and without checksums that are right.
func TestUniqueness(t *testing.T) {
	l := every("\x00\x01\x02\x03a\x7f\x80\x81\xff", 4)
	for _, s := range l[:len(l):len(l)] {
		l = append(l, sealed(s), sealed(s)+"\x00")
	}
	many := 0
	for _, s := range l {
		p, size, e := wantGet(s)
		isGet(t, s, p, size, e)
		if got, n, e := frame.Get(s); e == api.OK {
			many++
			isPut(t, got, s[:n])
		}
	}
	if many < 100 {
		t.Errorf("only %d of the strings start with a frame", many)
	}
}

// P4.2, P4.3: bytes of any kind, held against what the chapter says of them.
func TestHeldAgainstLibrary(t *testing.T) {
	r := source()
	for range 20000 {
		l := sequences()
		s, _ := joined(l[r.IntN(6)])
		b := []byte(s + some(r, r.IntN(8)))
		for range r.IntN(3) {
			if len(b) > 0 {
				b[r.IntN(len(b))] = "\x00\x01\x02\x80\xff"[r.IntN(5)]
			}
		}
		p, size, e := wantGet(string(b))
		isGet(t, string(b), p, size, e)
		all, upto, e := wantAll(string(b))
		isAll(t, string(b), all, upto, e)
	}
}

// shares tells whether two strings lie in the same memory.
func shares(a, b string) bool {
	if a == "" || b == "" {
		return false
	}
	p, q := uintptr(unsafe.Pointer(unsafe.StringData(a))), uintptr(unsafe.Pointer(unsafe.StringData(b)))
	return p < q+uintptr(len(b)) && q < p+uintptr(len(a))
}

// The rules that hold everywhere: a result is new memory, and shares none within itself.
func TestNewMemory(t *testing.T) {
	for _, p := range []string{"ab", "a payload of words, and more of them", strings.Repeat("x", 65536)} {
		s, _ := frame.Put(p)
		if shares(s, p) {
			t.Error("Put shares memory with its argument")
		}
		if again, _ := frame.Put(p); shares(s, again) {
			t.Error("two results of Put share memory")
		}
		got, _, _ := frame.Get(s)
		if shares(got, s) {
			t.Error("Get shares memory with its argument")
		}
		if again, _, _ := frame.Get(s); shares(got, again) {
			t.Error("two results of Get share memory")
		}
		l, _, _ := frame.All(s + s)
		if shares(l[0], l[1]) || shares(l[0], s) || shares(l[1], s) {
			t.Error("All shares memory with its argument, or within its result")
		}
	}
	s, _ := joined([]string{"ab", "cd"})
	if l, _, _ := frame.All(s); shares(l[0], l[1]) || shares(l[0], s) || shares(l[1], s) {
		t.Error("All shares memory with its argument, or within its result")
	}
}

// P2: the same calls have the same results, whatever was called between them.
func TestSameAgain(t *testing.T) {
	for range 3 {
		for _, l := range sequences() {
			s, _ := joined(l)
			isAll(t, s, l, len(s), api.OK)
			isAll(t, s+"\x80\x00", l, len(s), api.ErrForm)
			for _, p := range l {
				isPut(t, p, slowFrame(p))
				isGet(t, slowFrame(p)+s, p, frame.Size(len(p)), api.OK)
			}
		}
		isGet(t, "\x81\x80\x04", "", 0, api.ErrLong)
		isAll(t, "", nil, 0, api.OK)
	}
}
