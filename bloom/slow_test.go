package bloom_test

import (
	"math/rand/v2"
	"strings"
	"testing"

	"freshet/api"
	"freshet/bloom"
)

// slowHash is the hash of layer 1, by remainders of greater numbers.
func slowHash(seed uint64, b string) uint64 {
	const over = 1 << 32
	h := seed ^ 2166136261
	for _, c := range []byte(b) {
		h = (h ^ uint64(c)) * 16777619 % over
	}
	for range 3 {
		h = (h ^ h/(1<<15)) * 0x2C1B3C6D % over
	}
	return h
}

// slowProbes is the number of probes for a number of bits per key: the greatest one of which ten are not more than seven such numbers.
func slowProbes(bits int) int {
	k := 1
	for (k+1)*10 <= bits*7 {
		k++
	}
	return k
}

// slowWidth is the width of a filter of n keys: the least multiple of 8 that is not less than 64, nor than what the keys ask for.
func slowWidth(n, bits int) int {
	for m := n * bits / 8 * 8; ; m++ {
		if m%8 == 0 && m >= 64 && m >= n*bits {
			return m
		}
	}
}

// slowBits has the indexes of the bits of a key, in a filter of k probes and the width m.
func slowBits(key string, k, m int) []int {
	a, b := slowHash(1, key), slowHash(2, key)
	if b%2 == 0 {
		b++
	}
	var l []int
	for i := range uint64(k) {
		l = append(l, int((a+i*b)%(1<<32)%uint64(m)))
	}
	return l
}

// slowMake encodes a filter as the chapter's words have it: of each byte it asks which bits are in the set.
func slowMake(keys []string, bits int) string {
	k, m := slowProbes(bits), slowWidth(len(keys), bits)
	set := make([]bool, m)
	for _, key := range keys {
		for _, i := range slowBits(key, k, m) {
			set[i] = true
		}
	}
	return slowEncode(k, set)
}

// slowEncode encodes a bit set behind its number of probes.
func slowEncode(k int, set []bool) string {
	b := []byte{byte(k)}
	for at := 0; at < len(set); at += 8 {
		c, weight := 0, 1
		for _, one := range set[at : at+8] {
			if one {
				c += weight
			}
			weight *= 2
		}
		b = append(b, byte(c))
	}
	return string(b)
}

// isFilter tells whether f is the encoding of a filter.
func isFilter(f string) bool {
	return len(f) >= 9 && len(f) <= 262145 && f[0] >= 1 && f[0] <= 22
}

// slowSet has the bits of the encoding of a filter.
func slowSet(f string) []bool {
	var set []bool
	for _, c := range []byte(f[1:]) {
		for range 8 {
			set = append(set, c%2 == 1)
			c /= 2
		}
	}
	return set
}

// slowHas looks at all bits of the key.
func slowHas(f, key string) bool {
	if !isFilter(f) {
		return true
	}
	set := slowSet(f)
	has := true
	for _, i := range slowBits(key, int(f[0]), len(set)) {
		has = has && set[i]
	}
	return has
}

// slowOnes counts the bits one by one.
func slowOnes(f string) int {
	if !isFilter(f) {
		return 0
	}
	n := 0
	for _, one := range slowSet(f) {
		if one {
			n++
		}
	}
	return n
}

// slowCheck is what Check answers.
func slowCheck(f string) api.Errno {
	if !isFilter(f) {
		return api.ErrForm
	}
	return api.OK
}

// source returns numbers that look random and are the same in each run.
func source(seed uint64) *rand.Rand { return rand.New(rand.NewPCG(seed, 10)) }

// some returns n bytes.
func some(r *rand.Rand, n int) string {
	b := make([]byte, n)
	for i := range b {
		b[i] = byte(r.Uint32())
	}
	return string(b)
}

// someKeys returns n keys of all kinds of bytes, some of them more than once.
func someKeys(r *rand.Rand, n int) []string {
	var l []string
	for range n {
		switch r.IntN(4) {
		case 0:
			l = append(l, some(r, r.IntN(3)))
		case 1:
			l = append(l, "user-"+string(rune('a'+r.IntN(26))))
		case 2:
			l = append(l, some(r, r.IntN(80)))
		default:
			l = append(l, strings.Repeat("k", r.IntN(600)))
		}
	}
	return l
}

// manyKeys returns n short keys that are all unlike.
func manyKeys(n int) []string {
	l := make([]string, n)
	for i := range l {
		l[i] = string([]byte{byte(i), byte(i >> 8), byte(i >> 16)})
	}
	return l
}

// fixedKeys are keys that are asked for in every filter.
var fixedKeys = []string{"", "a", "b", "ab", "ba", "\x00", "\x00\x00", "\xff", "a\x00", "é€", "user-17", strings.Repeat("k", 520), strings.Repeat("\xff", 1000)}

// brief keeps a long string out of a test's words.
func brief(s string) string {
	if len(s) > 40 {
		return s[:40] + ".."
	}
	return s
}

// made is the filter that Make returns for keys and bits that may be.
func made(t *testing.T, keys []string, bits int) string {
	t.Helper()
	f, e := bloom.Make(keys, bits)
	if e != api.OK {
		t.Fatalf("Make of %d keys with %d bits: %v", len(keys), bits, e)
	}
	return f
}

// isMade tests that Make returns a filter as the chapter has it.
func isMade(t *testing.T, keys []string, bits int) {
	t.Helper()
	if f, want := made(t, keys, bits), slowMake(keys, bits); f != want {
		t.Errorf("Make of %d keys with %d bits: %d bytes % x, want %d bytes % x", len(keys), bits, len(f), brief(f), len(want), brief(want))
	}
}

// isRead tests what Check, Ones and Has say of f.
func isRead(t *testing.T, f string, keys ...string) {
	t.Helper()
	if got, want := bloom.Check(f), slowCheck(f); got != want {
		t.Errorf("Check of %d bytes % x: %v, want %v", len(f), brief(f), got, want)
	}
	if got, want := bloom.Ones(f), slowOnes(f); got != want {
		t.Errorf("Ones of %d bytes % x: %d, want %d", len(f), brief(f), got, want)
	}
	for _, key := range keys {
		if got, want := bloom.Has(f, key), slowHas(f, key); got != want {
			t.Errorf("Has of %d bytes % x and %q: %v, want %v", len(f), brief(f), brief(key), got, want)
		}
	}
}

// hasNo tests that Make refuses its arguments, and returns nothing beside the error.
func hasNo(t *testing.T, keys []string, bits int, want api.Errno) {
	t.Helper()
	if f, e := bloom.Make(keys, bits); f != "" || e != want {
		t.Errorf("Make of %d keys with %d bits: %d bytes, %v, want none, %v", len(keys), bits, len(f), e, want)
	}
}

// covers tells whether all bits that are set in the filter b are set in the filter a.
func covers(a, b string) bool {
	if len(a) != len(b) || a[0] != b[0] {
		return false
	}
	for i := 1; i < len(a); i++ {
		if b[i]&^a[i] != 0 {
			return false
		}
	}
	return true
}
