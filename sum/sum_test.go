package sum_test

import (
	"encoding/binary"
	"hash/crc32"
	"math/rand/v2"
	"strings"
	"testing"

	"freshet/sum"
)

// castagnoli is the library's own CRC-32C, against which the program's is held.
var castagnoli = crc32.MakeTable(crc32.Castagnoli)

// samples returns ordinary strings, the edges, and strings of all lengths up to 40 and of some beyond, none of more than 300 bytes.
func samples() []string {
	l := []string{
		"", "a", "b", "ab", "ba", "1234", "56789", "123456789",
		"a longer text, with some words in it", "é€", "\xc3(",
		"\x00", "\xff", "\x00\x00", "\x00\xff", "\xff\x00", "\xff\xff", "a\x00", "\x00a", "a\xff", "\xffa",
		strings.Repeat("\x00", 4), strings.Repeat("\xff", 4), strings.Repeat("\x00", 32), strings.Repeat("\xff", 32),
		everyByte(),
	}
	r := source()
	for n := range 41 {
		l = append(l, some(r, n))
	}
	return append(l, some(r, 255), some(r, 257), some(r, 300))
}

// source returns numbers that look random and are the same in each run.
func source() *rand.Rand { return rand.New(rand.NewPCG(1, 2)) }

// some returns n bytes.
func some(r *rand.Rand, n int) string {
	b := make([]byte, n)
	for i := range b {
		b[i] = byte(r.Uint32())
	}
	return string(b)
}

// everyByte returns the 256 bytes in their order.
func everyByte() string {
	var b [256]byte
	for i := range b {
		b[i] = byte(i)
	}
	return string(b[:])
}

// checksums returns the edges of 32-bit numbers, every number with one bit set, and some more.
func checksums() []uint32 {
	l := []uint32{0, 1<<32 - 1, 0xE3069283, 0x82F63B78, 2166136261, 16777619}
	for i := range 32 {
		l = append(l, 1<<i)
	}
	r := source()
	for range 30 {
		l = append(l, r.Uint32())
	}
	return l
}

// flip returns s with some of its bits turned; bits at places from at on are counted from the lowest bit of each byte.
func flip(s string, at int, pattern uint32) string {
	b := []byte(s)
	for i := range 32 {
		if pattern>>i&1 == 1 {
			b[(at+i)/8] ^= 1 << ((at + i) % 8)
		}
	}
	return string(b)
}

// xor returns the XOR of two strings of one length.
func xor(a, b string) string {
	x := []byte(a)
	for i := range x {
		x[i] ^= b[i]
	}
	return string(x)
}

// withChecksum returns prefix followed by four bytes, with the checksum want: the register is taken backwards over their 32 bits.
func withChecksum(prefix string, want uint32) string {
	register := ^want
	for range 32 {
		if register>>31 == 1 {
			register = (register^0x82F63B78)<<1 | 1
		} else {
			register <<= 1
		}
	}
	return prefix + seal(register^^crc32.Checksum([]byte(prefix), castagnoli))
}

// seal returns a checksum as four bytes, lowest first.
func seal(c uint32) string { return string(binary.LittleEndian.AppendUint32(nil, c)) }

// P1.1: the chapter's examples, and further known checksums.
func TestOfExamples(t *testing.T) {
	for _, x := range []struct {
		b    string
		want uint32
	}{
		{"", 0},
		{"123456789", 0xE3069283},
		{"a", 0xC1D04330},
		{"\x00", 0x527D5351},
		{"\xff", 0xFF000000},
		{strings.Repeat("\x00", 32), 0x8A9136AA},
		{strings.Repeat("\xff", 32), 0x62A8AB43},
		{everyByte()[:32], 0x46DD794E},
		{"é€", 0x2BD1833B},
		{"a longer text, with some words in it", 0x0A44AFAB},
	} {
		if got := sum.Of(x.b); got != x.want {
			t.Errorf("Of(%q) = %#x, want %#x", x.b, got, x.want)
		}
	}
}

// P1.1: strings of many lengths and bytes.
func TestOfHeldAgainstLibrary(t *testing.T) {
	r := source()
	for _, s := range append(samples(), some(r, 1000), some(r, 4096), some(r, 70001)) {
		if got, want := sum.Of(s), crc32.Checksum([]byte(s), castagnoli); got != want {
			t.Errorf("Of of %d bytes = %#x, want %#x", len(s), got, want)
		}
	}
	for c := range 256 {
		s := string([]byte{byte(c)})
		if got, want := sum.Of(s), crc32.Checksum([]byte(s), castagnoli); got != want {
			t.Errorf("Of(%q) = %#x, want %#x", s, got, want)
		}
	}
}

// P1.1: the chapter's example of More, and known results for sums that are at the edges.
func TestMoreExamples(t *testing.T) {
	if got := sum.More(sum.Of("1234"), "56789"); got != 0xE3069283 {
		t.Errorf("More(Of(1234), 56789) = %#x, want 0xe3069283", got)
	}
	for _, x := range []struct {
		sum  uint32
		b    string
		want uint32
	}{
		{0, "", 0},
		{0, "\x00", 0x527D5351},
		{0, "abc", 0x364B3FB7},
		{1, "", 1},
		{1, "\x00", 0xA016D052},
		{1, "\xff", 0x0D6B8303},
		{1<<32 - 1, "", 1<<32 - 1},
		{1<<32 - 1, "\x00", 1<<32 - 1},
		{1<<32 - 1, "\xff", 0x5282ACAE},
		{1<<32 - 1, "abc", 0xA9D06332},
		{0xDEADBEEF, "abc", 0x85D9EACE},
	} {
		if got := sum.More(x.sum, x.b); got != x.want {
			t.Errorf("More(%#x, %q) = %#x, want %#x", x.sum, x.b, got, x.want)
		}
	}
}

// P1.1: every number is the checksum of some string, and More continues every string that has it.
func TestMoreForEveryChecksum(t *testing.T) {
	for _, c := range checksums() {
		for _, prefix := range []string{"", "\x00", "\xff\xff", "another one"} {
			s := withChecksum(prefix, c)
			if got := sum.Of(s); got != c {
				t.Fatalf("Of(%q) = %#x, want %#x", s, got, c)
			}
			for _, b := range samples() {
				if got, want := sum.More(c, b), sum.Of(s+b); got != want {
					t.Errorf("More(%#x, %d bytes) = %#x, want %#x", c, len(b), got, want)
				}
			}
		}
	}
}

// slowHash works the hash out by remainders of greater numbers.
func slowHash(seed uint32, b string) uint32 {
	const over = 1 << 32
	h := uint64(seed) ^ 2166136261
	for _, c := range []byte(b) {
		h = (h ^ uint64(c)) * 16777619 % over
	}
	for range 3 {
		h = (h ^ h/(1<<15)) * 0x2C1B3C6D % over
	}
	return uint32(h)
}

// P1.2: the chapter's example, and known hashes.
func TestHashExamples(t *testing.T) {
	for _, x := range []struct {
		seed uint32
		b    string
		want uint32
	}{
		{2166136261, "", 0},
		{2166136261, "\x00", 0},
		{2166136261, "\x00\x00\x00", 0},
		{0, "", 0x3098823B},
		{1, "", 0x57023135},
		{1<<32 - 1, "", 0x19BB7D82},
		{0, "a", 0x6211463F},
		{0, "\xff", 0xCF6EDA1D},
		{0, "123456789", 0xDF7AE05A},
		{7, "ab", 0xBF0DF088},
		{7, "ba", 0x69322E7F},
		{3, "é€", 0xA58AC28A},
		{1<<32 - 1, "\x00\xff\x00\xff", 0x678DD983},
		{1 << 31, "a longer text, with some words in it", 0xB5A95EA0},
	} {
		if got := sum.Hash(x.seed, x.b); got != x.want {
			t.Errorf("Hash(%#x, %q) = %#x, want %#x", x.seed, x.b, got, x.want)
		}
	}
}

// P1.2: many seeds and strings.
func TestHashHeldAgainstRemainders(t *testing.T) {
	for _, seed := range checksums() {
		for _, s := range samples() {
			if got, want := sum.Hash(seed, s), slowHash(seed, s); got != want {
				t.Errorf("Hash(%#x, %d bytes) = %#x, want %#x", seed, len(s), got, want)
			}
		}
	}
	for c := range 256 {
		s := string([]byte{byte(c)})
		if got, want := sum.Hash(9, s), slowHash(9, s); got != want {
			t.Errorf("Hash(9, %q) = %#x, want %#x", s, got, want)
		}
	}
}

// P1.3: a string that is parted anywhere is summed as the whole one.
func TestConcatenation(t *testing.T) {
	if got := sum.Of(""); got != 0 {
		t.Errorf("Of of the empty string = %#x, want 0", got)
	}
	for _, s := range samples() {
		for at := range len(s) + 1 {
			if got, want := sum.More(sum.Of(s[:at]), s[at:]), sum.Of(s); got != want {
				t.Errorf("%d bytes parted at %d: %#x, want %#x", len(s), at, got, want)
			}
		}
	}
	r := source()
	for range 200 {
		a, b := some(r, r.IntN(70)), some(r, r.IntN(70))
		if got, want := sum.More(sum.Of(a), b), sum.Of(a+b); got != want {
			t.Errorf("More(Of(%q), %q) = %#x, want %#x", a, b, got, want)
		}
	}
}

// P1.4: bursts of all widths up to 32 bits, at every place of the string.
func TestBursts(t *testing.T) {
	r := source()
	for _, s := range []string{"\x00\x00\x00\x00", "\xff\xff\xff\xff", "123456789", everyByte(), some(r, 64)} {
		was := sum.Of(s)
		for at := range len(s)*8 - 31 {
			for _, pattern := range bursts(r) {
				if other := flip(s, at, pattern); sum.Of(other) == was {
					t.Fatalf("%q and %q have one checksum", s, other)
				}
			}
		}
	}
}

// bursts returns patterns of bits that are not 0: of one bit, of two, all filled ones, and some that look random.
func bursts(r *rand.Rand) []uint32 {
	l := []uint32{1<<32 - 1, 0x82F63B78, 1<<31 | 1, 0x55555555, 0xAAAAAAAA}
	for i := range 32 {
		l = append(l, 1<<i, 1<<i|1, 1<<i-1|1)
	}
	for range 40 {
		l = append(l, r.Uint32()|1)
	}
	return l
}

// P1.4: also where the strings are too short for 32 bits: no two strings of one or two bytes have one checksum.
func TestBurstsOfShortStrings(t *testing.T) {
	seen := map[uint32]string{}
	for n := range 1 << 16 {
		s := string([]byte{byte(n), byte(n >> 8)})
		if other, ok := seen[sum.Of(s)]; ok {
			t.Fatalf("%q and %q have one checksum", s, other)
		}
		seen[sum.Of(s)] = s
	}
	clear(seen)
	for c := range 256 {
		s := string([]byte{byte(c)})
		if other, ok := seen[sum.Of(s)]; ok {
			t.Fatalf("%q and %q have one checksum", s, other)
		}
		seen[sum.Of(s)] = s
	}
}

// P1.5: four strings in which every bit is 1 in none, two or all of them.
func TestLinearity(t *testing.T) {
	r := source()
	for _, n := range []int{0, 1, 2, 3, 4, 5, 8, 31, 100, 1000} {
		zeros, ones := strings.Repeat("\x00", n), strings.Repeat("\xff", n)
		a, b, c := some(r, n), some(r, n), some(r, n)
		for _, l := range [][3]string{
			{a, b, c}, {a, a, b}, {a, a, a}, {a, zeros, ones}, {zeros, ones, b}, {zeros, zeros, zeros}, {ones, ones, zeros}, {ones, ones, ones},
		} {
			last := xor(xor(l[0], l[1]), l[2])
			if x := sum.Of(l[0]) ^ sum.Of(l[1]) ^ sum.Of(l[2]) ^ sum.Of(last); x != 0 {
				t.Errorf("%d bytes: the XOR of the four checksums is %#x", n, x)
			}
		}
	}
}

// P1.6: a string with its checksum behind it has the same checksum as any other such string.
func TestSeal(t *testing.T) {
	for _, s := range samples() {
		if got := sum.Of(s + seal(sum.Of(s))); got != 0x48674BC7 {
			t.Errorf("%d bytes, sealed: %#x, want 0x48674bc7", len(s), got)
		}
	}
}

// P1.6: strings that differ in their last byte only.
func TestLastByte(t *testing.T) {
	for _, s := range []string{"", "a", "12345678", "\x00", "\xff\xff", everyByte()} {
		seen := map[uint32]int{}
		for c := range 256 {
			got := sum.Of(s + string([]byte{byte(c)}))
			if other, ok := seen[got]; ok {
				t.Errorf("%q followed by byte %d, or by byte %d: one checksum", s, other, c)
			}
			seen[got] = c
		}
	}
}

// P1.7: unlike checksums stay unlike, whatever is added to both.
func TestContinuation(t *testing.T) {
	for _, b := range samples() {
		seen := map[uint32]uint32{}
		for _, c := range checksums() {
			for _, from := range []uint32{c, c ^ 1, c ^ 1<<31, c + 2, ^c} {
				got := sum.More(from, b)
				if other, ok := seen[got]; ok && other != from {
					t.Fatalf("More(%#x, %q) and More(%#x, %q) are both %#x", from, b, other, b, got)
				}
				seen[got] = from
			}
		}
	}
}

// P2: the same calls have the same results, whatever was called between them.
func TestSameAgain(t *testing.T) {
	for _, s := range samples() {
		of, more, hash := sum.Of(s), sum.More(77, s), sum.Hash(77, s)
		sum.More(78, s+"x")
		sum.Hash(78, s+"x")
		if sum.Of(s) != of || sum.More(77, s) != more || sum.Hash(77, s) != hash {
			t.Errorf("%d bytes: other results the second time", len(s))
		}
	}
}
