package bloom_test

import (
	"encoding/hex"
	"math"
	"slices"
	"strings"
	"testing"
	"unsafe"

	"freshet/api"
	"freshet/bloom"
)

var (
	zeros = strings.Repeat("\x00", 8)
	full  = strings.Repeat("\xff", 8)
)

// P10.1, P10.2: the chapter's examples.
func TestExamples(t *testing.T) {
	if f := made(t, nil, 10); f != "\x07"+zeros {
		t.Errorf("Make(none, 10) = % x", f)
	}
	hasNo(t, []string{"a"}, 0, api.ErrArg)
	hasNo(t, []string{"a"}, 33, api.ErrArg)
	for _, f := range []string{"\x07", "\x00" + zeros, "\x17" + zeros} {
		if e := bloom.Check(f); e != api.ErrForm {
			t.Errorf("Check(% x) = %v", f, e)
		}
	}
	for f, want := range map[string]bool{"\x07" + zeros: false, "\x01" + full: true, "": true} {
		if got := bloom.Has(f, "a"); got != want {
			t.Errorf("Has(% x, a) = %v", f, got)
		}
	}
}

// P10.1: filters whose bytes were worked out by other means.
func TestMakeKnown(t *testing.T) {
	var nine []string
	for i := range 9 {
		nine = append(nine, "key "+string(rune('0'+i)))
	}
	for _, x := range []struct {
		keys []string
		bits int
		want string
	}{
		{nil, 1, "010000000000000000"},
		{nil, 32, "160000000000000000"},
		{[]string{""}, 10, "079200000000002049"},
		{[]string{"a"}, 1, "010000000000000010"},
		{[]string{"a"}, 2, "010000000000000010"},
		{[]string{"a"}, 10, "070042000021008410"},
		{[]string{"a", "a"}, 10, "070042000021008410"},
		{[]string{"a", "b"}, 10, "070042409225018410"},
		{[]string{"a", "b"}, 32, "1692764bda2db3a5dd"},
		{[]string{"\x00"}, 10, "070081400004022010"},
		{[]string{"\xff\x00"}, 7, "040402001000800000"},
		{[]string{"é€"}, 10, "074000880010012002"},
		{[]string{strings.Repeat("k", 520)}, 16, "0b4900000000499224"},
		{[]string{"a", "b", "c", "d", "e", "f", "g"}, 10, "071f1ba6dd81572e42c0"},
		{[]string{"a", "b", "c", "d", "e"}, 13, "099e1ba69f89532442d0"},
		{nine, 8, "0564b68791d23a20854f"},
	} {
		if f := made(t, x.keys, x.bits); hex.EncodeToString([]byte(f)) != x.want {
			t.Errorf("Make(%q, %d) = %x, want %s", x.keys, x.bits, f, x.want)
		}
	}
}

// P10.1: numbers of bits, and of keys, that may not be; the bits come first.
func TestMakeWrong(t *testing.T) {
	most, over := manyKeys(65536), manyKeys(65537)
	for _, bits := range []int{0, 33, -1, 34, -10, 64, 255, 256, 257, 266, 1 << 31, 1<<32 + 10, math.MaxInt, math.MinInt, math.MinInt + 10} {
		for _, keys := range [][]string{nil, {}, {""}, {"a", "b"}, most, over} {
			hasNo(t, keys, bits, api.ErrArg)
		}
	}
	for bits := 1; bits <= 32; bits++ {
		hasNo(t, over, bits, api.ErrLong)
	}
	hasNo(t, make([]string, 65537), 10, api.ErrLong)
	hasNo(t, make([]string, 1<<20), 1, api.ErrLong)
}

// P10.1: the most keys, with few and many bits.
func TestMakeMostKeys(t *testing.T) {
	keys := manyKeys(65536)
	for bits, size := range map[int]int{1: 8193, 2: 16385, 10: 81921, 32: 262145} {
		f := made(t, keys, bits)
		if len(f) != size || f != slowMake(keys, bits) {
			t.Errorf("Make of 65536 keys with %d bits: %d bytes % x", bits, len(f), brief(f))
		}
		if e := bloom.Check(f); e != api.OK {
			t.Errorf("Check of the filter of 65536 keys with %d bits: %v", bits, e)
		}
		if got, want := bloom.Ones(f), slowOnes(f); got != want {
			t.Errorf("Ones of the filter of 65536 keys with %d bits: %d, want %d", bits, got, want)
		}
		for _, key := range keys {
			if !bloom.Has(f, key) {
				t.Fatalf("the filter of 65536 keys with %d bits doesn't have % x", bits, key)
			}
		}
	}
	isMade(t, manyKeys(65535), 31)
}

// P10.1, P10.5: the numbers of probes for all numbers of bits per key.
func TestProbes(t *testing.T) {
	want := []int{1, 1, 2, 2, 3, 4, 4, 5, 6, 7, 7, 8, 9, 9, 10, 11, 11, 12, 13, 14, 14, 15, 16, 16, 17, 18, 18, 19, 20, 21, 21, 22}
	for i, k := range want {
		for _, keys := range [][]string{nil, {"a"}, {"a", "b", "c"}} {
			if f := made(t, keys, i+1); int(f[0]) != k {
				t.Errorf("%d bits: %d probes, want %d", i+1, f[0], k)
			}
		}
	}
}

// P10.1, P10.5: the widths, also where they change, for all numbers of bits per key.
func TestWidths(t *testing.T) {
	keys := manyKeys(300)
	for bits := 1; bits <= 32; bits++ {
		for n := range keys {
			if f := made(t, keys[:n], bits); len(f) != 1+slowWidth(n, bits)/8 {
				t.Errorf("%d keys, %d bits: %d bytes, want %d", n, bits, len(f), 1+slowWidth(n, bits)/8)
			}
		}
	}
	for _, x := range []struct{ n, bits, bytes int }{
		{0, 32, 8}, {1, 32, 8}, {2, 32, 8}, {3, 32, 12}, {64, 1, 8}, {65, 1, 9}, {72, 1, 9}, {73, 1, 10}, {21, 3, 8}, {22, 3, 9}, {6, 10, 8}, {7, 10, 9}, {8, 10, 10}, {9, 7, 8}, {10, 7, 9},
	} {
		if f := made(t, keys[:x.n], x.bits); len(f) != 1+x.bytes {
			t.Errorf("%d keys, %d bits: %d bytes, want %d", x.n, x.bits, len(f), 1+x.bytes)
		}
	}
}

// P10.1, P10.2: the bits of a key, alone in filters of all widths that one key has, and of greater ones.
func TestBitsOfAKey(t *testing.T) {
	for _, key := range fixedKeys {
		for bits := 1; bits <= 32; bits++ {
			isMade(t, []string{key}, bits)
			for _, n := range []int{9, 100, 1000} {
				isMade(t, slices.Repeat([]string{key}, n), bits)
			}
		}
	}
}

// P10.2: a key is there only if all of its bits are: each of them is cleared once, in a filter that has all others.
func TestHasNeedsEveryBit(t *testing.T) {
	for _, key := range fixedKeys {
		for k := 1; k <= 22; k++ {
			for _, bytes := range []int{8, 9, 31, 32, 33, 255, 256, 257, 1000} {
				for _, i := range slowBits(key, k, bytes*8) {
					set := slices.Repeat([]bool{true}, bytes*8)
					set[i] = false
					if bloom.Has(slowEncode(k, set), key) {
						t.Errorf("%q has all bits, of %d probes in %d bytes, without bit %d", brief(key), k, bytes, i)
					}
				}
			}
		}
	}
}

// P10.2: a key needs no other bits than its own.
func TestHasNeedsNoMore(t *testing.T) {
	for _, key := range fixedKeys {
		for k := 1; k <= 22; k++ {
			for _, bytes := range []int{8, 9, 31, 32, 33, 255, 256, 257, 1000} {
				set := make([]bool, bytes*8)
				for _, i := range slowBits(key, k, bytes*8) {
					set[i] = true
				}
				if !bloom.Has(slowEncode(k, set), key) {
					t.Errorf("%q hasn't all bits, of %d probes in %d bytes", brief(key), k, bytes)
				}
			}
		}
	}
}

// P10.2: filters of all numbers of probes, and what are none; the lengths that matter.
func TestCheckEdges(t *testing.T) {
	for k := range 256 {
		for _, bytes := range []int{0, 1, 7, 8, 9, 63, 64, 65} {
			f := string([]byte{byte(k)}) + strings.Repeat("\x55", bytes)
			isRead(t, f, "a", "b")
			if got, want := bloom.Check(f) == api.OK, k >= 1 && k <= 22 && bytes >= 8; got != want {
				t.Errorf("Check of %d probes, and %d bytes: %v", k, bytes, got)
			}
		}
	}
	for _, k := range []byte{0, 1, 7, 22, 23, 255} {
		for _, bytes := range []int{0, 1, 2, 6, 7, 8, 9, 10, 255, 256, 262143, 262144, 262145, 262146, 300000, 1 << 20} {
			for _, c := range []byte{0x00, 0x81, 0xff} {
				isRead(t, string([]byte{k})+strings.Repeat(string([]byte{c}), bytes), "a", "b", "")
			}
		}
	}
}

// P10.2: what is no filter: ErrForm, every key, and no bits.
func TestNoFilter(t *testing.T) {
	for _, f := range []string{
		"", "\x07", "\x00", "\x17", "\xff", "\x07" + full[1:], "\x07" + zeros[1:], "\x00" + full, "\x00" + zeros, "\x17" + full, "\x17" + zeros, "\xff" + full, "a filter",
		"\x07" + strings.Repeat("\x00", 262145), "\x16" + strings.Repeat("\xff", 262145), "\x00" + strings.Repeat("\x00", 262144), "\x17" + strings.Repeat("\x00", 262144),
	} {
		if e := bloom.Check(f); e != api.ErrForm {
			t.Errorf("Check of %d bytes % x: %v", len(f), brief(f), e)
		}
		if n := bloom.Ones(f); n != 0 {
			t.Errorf("Ones of %d bytes % x: %d", len(f), brief(f), n)
		}
		for _, key := range fixedKeys {
			if !bloom.Has(f, key) {
				t.Errorf("%d bytes % x don't have %q", len(f), brief(f), brief(key))
			}
		}
	}
}

// P10.2: bits of every byte, at every place of the least filter, and at the ends of longer ones; the number of probes is none of them.
func TestOnes(t *testing.T) {
	for c := range 256 {
		want := 0
		for n := c; n > 0; n /= 2 {
			want += n % 2
		}
		for _, bytes := range []int{8, 9, 100} {
			for _, at := range []int{0, 1, 2, 3, 4, 5, 6, 7, bytes - 1} {
				for _, k := range []byte{1, 7, 22} {
					f := append([]byte{k}, make([]byte, bytes)...)
					f[1+at] = byte(c)
					if n := bloom.Ones(string(f)); n != want {
						t.Fatalf("Ones of byte %d at %d of %d: %d, want %d", c, at, bytes, n, want)
					}
				}
			}
		}
		if n := bloom.Ones("\x16" + strings.Repeat("\x00", 262143) + string([]byte{byte(c)})); n != want {
			t.Errorf("Ones of byte %d at the end of the greatest filter: %d, want %d", c, n, want)
		}
	}
	for _, k := range []byte{1, 22} {
		if n := bloom.Ones(string([]byte{k}) + strings.Repeat("\xff", 262144)); n != 2097152 {
			t.Errorf("Ones of the greatest filter, with all bits set: %d", n)
		}
		if n := bloom.Ones(string([]byte{k}) + full); n != 64 {
			t.Errorf("Ones of the least filter, with all bits set: %d", n)
		}
	}
}

// P10.5: a filter in which all bits are set has every key, one in which none is set has none.
func TestFullAndEmpty(t *testing.T) {
	keys := append(someKeys(source(3), 30), fixedKeys...)
	for k := byte(1); k <= 22; k++ {
		for _, bytes := range []int{8, 9, 10, 100, 262144} {
			all, none := string([]byte{k})+strings.Repeat("\xff", bytes), string([]byte{k})+strings.Repeat("\x00", bytes)
			for _, key := range keys {
				if !bloom.Has(all, key) {
					t.Errorf("%d probes, %d bytes with all bits: no %q", k, bytes, brief(key))
				}
				if bloom.Has(none, key) {
					t.Errorf("%d probes, %d bytes without bits: %q", k, bytes, brief(key))
				}
			}
		}
	}
}

// P10.1: a nil list and an empty one are the same; the keys stay as they were, behind the list's length too.
func TestKeysStay(t *testing.T) {
	for bits := 1; bits <= 32; bits++ {
		if a, b := made(t, nil, bits), made(t, []string{}, bits); a != b || bloom.Ones(a) != 0 {
			t.Errorf("%d bits: % x for a nil list, % x for an empty one", bits, a, b)
		}
	}
	whole := []string{"b", "a", "", "b", "behind", "the end"}
	was := slices.Clone(whole)
	f := made(t, whole[:4], 10)
	if !slices.Equal(whole, was) {
		t.Errorf("Make changed the keys to %q", whole)
	}
	if f != slowMake([]string{"b", "a", "", "b"}, 10) {
		t.Errorf("Make of a part of a list: % x", f)
	}
	whole[0] = "changed"
	if f != slowMake([]string{"b", "a", "", "b"}, 10) {
		t.Errorf("the filter changed with the keys: % x", f)
	}
}

// P10.1, P2: the same calls return the same again, in memory of their own.
func TestSameAgain(t *testing.T) {
	for bits := 1; bits <= 32; bits++ {
		for _, n := range []int{0, 1, 50} {
			keys := manyKeys(n)
			one := made(t, keys, bits)
			made(t, append([]string{"another"}, keys...), bits)
			has, ones := bloom.Has(one, "x"), bloom.Ones(one)
			bloom.Has("\x01"+full, "x")
			two := made(t, keys, bits)
			if one != two || bloom.Has(two, "x") != has || bloom.Ones(two) != ones {
				t.Errorf("%d keys, %d bits: other results the second time", n, bits)
			}
			if unsafe.StringData(one) == unsafe.StringData(two) {
				t.Errorf("%d keys, %d bits: two results in one memory", n, bits)
			}
		}
	}
}
