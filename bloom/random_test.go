package bloom_test

import (
	"slices"
	"strings"
	"testing"

	"freshet/bloom"
)

// P10.1, P10.2: random keys, held against what the chapter says of their filter.
func TestHeldAgainstSlow(t *testing.T) {
	for seed := range uint64(600) {
		random := source(seed)
		keys := someKeys(random, random.IntN(60))
		bits := 1 + random.IntN(32)
		isMade(t, keys, bits)
		isRead(t, slowMake(keys, bits), append(someKeys(random, 20), fixedKeys...)...)
	}
}

// P10.2: random bytes, as filters and as none.
func TestRandomBytes(t *testing.T) {
	random := source(2)
	for range 3000 {
		f := some(random, random.IntN(40))
		isRead(t, f, fixedKeys...)
		isRead(t, string([]byte{byte(random.IntN(24))})+f, fixedKeys...)
		// Few of the bits, or nearly all, so that Has finds keys of many probes now and then, and misses those of few.
		thin, dense := []byte("\x01"+f), []byte(string([]byte{byte(1 + random.IntN(22))})+f)
		for i := range f {
			thin[1+i] &= byte(random.Uint32())
			dense[1+i] |= byte(random.Uint32() | random.Uint32())
		}
		isRead(t, string(thin), fixedKeys...)
		isRead(t, string(dense), fixedKeys...)
	}
}

// P10.1, P10.2: all lists of up to three of these keys, with all numbers of bits.
func TestAllShortLists(t *testing.T) {
	alphabet := []string{"", "a", "b", "ab", "\x00", "\xff"}
	lists := [][]string{nil}
	for from, more := 0, 3; more > 0; more-- {
		to := len(lists)
		for _, l := range lists[from:to] {
			for _, key := range alphabet {
				lists = append(lists, append(slices.Clone(l), key))
			}
		}
		from = to
	}
	for _, l := range lists {
		for bits := 1; bits <= 32; bits++ {
			isMade(t, l, bits)
			isRead(t, slowMake(l, bits), alphabet...)
		}
	}
}

// P10.3: a filter has every key that it was made of, and at most so many bits as they have.
func TestMadeKeysAreThere(t *testing.T) {
	for seed := range uint64(300) {
		random := source(seed)
		keys := someKeys(random, random.IntN(200))
		bits := 1 + random.IntN(32)
		f := made(t, keys, bits)
		for _, key := range keys {
			if !bloom.Has(f, key) {
				t.Errorf("seed %d: the filter of %d keys with %d bits doesn't have %q", seed, len(keys), bits, brief(key))
			}
		}
		if n := bloom.Ones(f); n > slowProbes(bits)*len(keys) || n == 0 && len(keys) > 0 {
			t.Errorf("seed %d: %d bits are set for %d keys with %d bits", seed, n, len(keys), bits)
		}
	}
}

// P10.3: Ones is no more than the keys' probes, where that is few: one key, alone in a filter.
func TestOnesOfOneKey(t *testing.T) {
	random := source(4)
	for range 2000 {
		bits := 1 + random.IntN(32)
		if n := bloom.Ones(made(t, []string{some(random, random.IntN(20))}, bits)); n < 1 || n > slowProbes(bits) {
			t.Errorf("one key with %d bits: %d are set", bits, n)
		}
	}
}

// P10.4: neither the keys' order matters, nor which of them stand there again.
func TestOrderAndRepetition(t *testing.T) {
	for seed := range uint64(200) {
		random := source(seed)
		different := someKeys(random, 1+random.IntN(30))
		bits, more := 1+random.IntN(32), random.IntN(40)
		var first string
		for i := range 6 {
			keys := slices.Clone(different)
			for range more {
				keys = append(keys, different[random.IntN(len(different))])
			}
			random.Shuffle(len(keys), func(i, j int) { keys[i], keys[j] = keys[j], keys[i] })
			f := made(t, keys, bits)
			if i == 0 {
				first = f
			}
			if f != first {
				t.Errorf("seed %d: % x, and % x in another order", seed, brief(first), brief(f))
			}
		}
	}
}

// P10.4: a subset's filter of the same width and number of probes has no bit that the other one hasn't; also if the number of bits per key isn't the same.
func TestSubsets(t *testing.T) {
	compared := 0
	for seed := range uint64(400) {
		random := source(seed)
		keys := someKeys(random, 1+random.IntN(30))
		bits := 1 + random.IntN(32)
		whole := made(t, keys, bits)
		var part []string
		for _, key := range keys {
			if random.IntN(2) == 0 {
				part = append(part, key)
			}
		}
		if len(part) > 0 {
			for len(part) < len(keys) {
				part = append(part, part[0])
			}
		}
		for other := 1; other <= 32; other++ {
			if slowProbes(other) != slowProbes(bits) || slowWidth(len(part), other) != slowWidth(len(keys), bits) {
				continue
			}
			compared++
			if !covers(whole, made(t, part, other)) {
				t.Errorf("seed %d: a subset's filter, with %d bits, has bits that the one of %d keys with %d bits hasn't", seed, other, len(keys), bits)
			}
		}
	}
	if compared < 300 {
		t.Errorf("only %d subsets were compared", compared)
	}
}

// P10.5: what Make returns is a filter, of one byte and the bytes of its width.
func TestMadeIsAFilter(t *testing.T) {
	for seed := range uint64(300) {
		random := source(seed)
		keys := someKeys(random, random.IntN(300))
		bits := 1 + random.IntN(32)
		f := made(t, keys, bits)
		if e := bloom.Check(f); e != 0 || len(f) != 1+slowWidth(len(keys), bits)/8 || int(f[0]) != slowProbes(bits) {
			t.Errorf("seed %d: Check of the filter of %d keys with %d bits, %d bytes: %v", seed, len(keys), bits, len(f), e)
		}
	}
}

// P10.5: one more key clears no bit if the width and the number of probes stay.
func TestOneMoreKey(t *testing.T) {
	for seed := range uint64(100) {
		random := source(seed)
		keys := someKeys(random, 70)
		bits := 1 + random.IntN(32)
		stays := 0
		for n := range len(keys) {
			if slowWidth(n, bits) != slowWidth(n+1, bits) {
				continue
			}
			stays++
			if !covers(made(t, keys[:n+1], bits), made(t, keys[:n], bits)) {
				t.Errorf("seed %d: key %d clears bits, with %d bits per key", seed, n, bits)
			}
		}
		if stays == 0 {
			t.Errorf("seed %d: no key was added, with %d bits per key", seed, bits)
		}
	}
}

// P1: every call ends for any strings, long ones too.
func TestAnyStrings(t *testing.T) {
	long := strings.Repeat("a long key, ", 100000)
	isMade(t, []string{long, "", long, long[1:]}, 10)
	isRead(t, long, long, "")
	isRead(t, slowMake([]string{long}, 32), long, long[1:], "")
	isRead(t, "\x16"+long[:262144], long, long[1:], "")
}
