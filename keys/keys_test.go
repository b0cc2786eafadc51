package keys_test

import (
	"cmp"
	"fmt"
	"hash/fnv"
	"math"
	"math/rand/v2"
	"slices"
	"strings"
	"testing"
	"unsafe"

	"freshet/api"
	"freshet/keys"
)

// source returns numbers that look random and are the same in each run.
func source() *rand.Rand { return rand.New(rand.NewPCG(5, 6)) }

// some returns n bytes.
func some(r *rand.Rand, n int) string {
	b := make([]byte, n)
	for i := range b {
		b[i] = byte(r.Uint32())
	}
	return string(b)
}

// every returns all strings of at most so many of these bytes, the empty one first.
func every(alphabet string, most int) []string {
	l := []string{""}
	for from := 0; most > 0; most-- {
		to := len(l)
		for _, s := range l[from:to] {
			for i := range len(alphabet) {
				l = append(l, s+alphabet[i:i+1])
			}
		}
		from = to
	}
	return l
}

// long returns strings of n bytes, at least 4, that begin and end with each of the bytes that matter.
func long(n int) []string {
	return []string{
		strings.Repeat("x", n), strings.Repeat("\x00", n), strings.Repeat("\xff", n), strings.Repeat("\x01", n),
		"\x00" + strings.Repeat("y", n-2) + "\x00", "\xff" + strings.Repeat("y", n-2) + "\xff", strings.Repeat("x", n-1) + "\x00",
	}
}

// parts returns strings that may be Key, Space or Sub; in order, each once.
func parts() []string {
	l := []string{"user-17", "user-18", "user", "a longer text, with some words", "é€", "\xc3(", "a\x00b", "a\x00", "a\x01"}
	l = append(l, every("\x00\x01a\xff", 2)...)
	l = append(l, long(63)...)
	l = append(l, long(64)...)
	slices.Sort(l)
	return slices.Compact(l)
}

// numbers are what State and Group may be, of those at the ends and some between.
var numbers = []int{0, 1, 2, 31, 62, 63}

// outside are what State and Group may not be; as bytes, some of them would be.
var outside = []int{-1, 64, 65, 127, 128, 255, 256, 257, 320, -64, -256, 1 << 32, 1<<32 + 1, math.MaxInt, math.MinInt}

// valid returns valid state's keys that differ in each of their fields, alone and together; in no order, each once.
func valid() []api.StateKey {
	l := []api.StateKey{{}, {State: 1, Group: 2, Key: "a", Sub: "x"}, {State: 63, Group: 63, Key: long(64)[2], Space: long(64)[2], Sub: long(64)[2]}}
	for _, n := range numbers {
		l = append(l, api.StateKey{State: n}, api.StateKey{Group: n}, api.StateKey{State: n, Group: 63 - n, Key: "a", Space: "b", Sub: "c"})
	}
	for _, p := range parts() {
		l = append(l, api.StateKey{Key: p}, api.StateKey{Space: p}, api.StateKey{Sub: p}, api.StateKey{State: 1, Group: 2, Key: p, Space: p, Sub: p})
	}
	// The same bytes, parted otherwise among the fields.
	for _, p := range []string{"", "\x00", "\x01", "\x00\x01", "\xff", "a"} {
		for _, q := range []string{"", "\x00", "\x01", "\x00\x01", "\xff", "a"} {
			l = append(l, api.StateKey{State: 1, Key: p, Space: q}, api.StateKey{State: 1, Key: p, Sub: q}, api.StateKey{State: 1, Space: p, Sub: q})
		}
	}
	slices.SortFunc(l, wantCmp)
	l = slices.Compact(l)
	source().Shuffle(len(l), func(i, j int) { l[i], l[j] = l[j], l[i] })
	return l
}

// wild returns state's keys that are valid, and ones that are not.
func wild() []api.StateKey {
	var l []api.StateKey
	for i, k := range valid() {
		if i%4 == 0 {
			l = append(l, k)
		}
	}
	for _, n := range outside {
		l = append(l, api.StateKey{State: n}, api.StateKey{Group: n}, api.StateKey{State: n, Group: n, Key: "a"})
	}
	for _, p := range append(long(65), strings.Repeat("z", 100000)) {
		l = append(l, api.StateKey{Key: p}, api.StateKey{Space: p}, api.StateKey{Sub: p}, api.StateKey{State: 64, Key: p}, api.StateKey{Group: -1, Sub: p})
	}
	return l
}

// slowText writes an ordered text byte by byte.
func slowText(t string) string {
	var b []byte
	for i := range len(t) {
		b = append(b, t[i])
		if t[i] == 0 {
			b = append(b, 255)
		}
	}
	return string(append(b, 0, 1))
}

// slowFirst writes the first fields of a state's key, valid or not, so many as n says; with n 5, all of them.
func slowFirst(k api.StateKey, n int) string {
	fields := []string{string([]byte{byte(k.State)}), string([]byte{byte(k.Group)}), slowText(k.Key), slowText(k.Space), k.Sub}
	return strings.Join(fields[:n], "")
}

// wantCheck works out what Check answers.
func wantCheck(k api.StateKey) api.Errno {
	switch {
	case k.State < 0 || k.State > 63 || k.Group < 0 || k.Group > 63:
		return api.ErrArg
	case len(k.Key) > 64 || len(k.Space) > 64 || len(k.Sub) > 64:
		return api.ErrLong
	}
	return api.OK
}

// wantDecode works out what Decode answers by trying all ways to part s.
func wantDecode(s string) (api.StateKey, api.Errno) {
	for i := 2; i <= len(s); i++ {
		for j := i; j <= len(s); j++ {
			k := api.StateKey{State: int(s[0]), Group: int(s[1]), Key: unzero(s[2:i]), Space: unzero(s[i:j]), Sub: s[j:]}
			if wantCheck(k) == api.OK && slowFirst(k, 5) == s {
				return k, api.OK
			}
		}
	}
	return api.StateKey{}, api.ErrForm
}

// unzero takes the end from an ordered text, and the bytes 255 behind its zeros.
func unzero(s string) string {
	return strings.ReplaceAll(strings.TrimSuffix(s, "\x00\x01"), "\x00\xff", "\x00")
}

// wantCmp works out what Cmp answers.
func wantCmp(a, b api.StateKey) int {
	return cmp.Or(cmp.Compare(a.State, b.State), cmp.Compare(a.Group, b.Group), strings.Compare(a.Key, b.Key), strings.Compare(a.Space, b.Space), strings.Compare(a.Sub, b.Sub))
}

// same tells whether the first n fields of two state's keys are equal.
func same(a, b api.StateKey, n int) bool {
	equal := []bool{a.State == b.State, a.Group == b.Group, a.Key == b.Key, a.Space == b.Space}
	return !slices.Contains(equal[:n], false)
}

// wantRange works out what Range answers.
func wantRange(k api.StateKey, n int) (from, to string, e api.Errno) {
	out := func(n int) bool { return n < 0 || n > 63 }
	switch {
	case n < 1 || n > 4 || out(k.State) || n >= 2 && out(k.Group):
		return "", "", api.ErrArg
	case n >= 3 && len(k.Key) > 64 || n >= 4 && len(k.Space) > 64:
		return "", "", api.ErrLong
	}
	from = slowFirst(k, n)
	b := []byte(from)
	for b[len(b)-1] == 255 {
		b = b[:len(b)-1]
	}
	b[len(b)-1]++
	return from, string(b), api.OK
}

// wantGroup works out what Group answers, by the library's FNV-1a, which is how the hash begins for the seed 0.
func wantGroup(key string, groups int) (int, api.Errno) {
	if groups < 1 || groups > 64 {
		return 0, api.ErrArg
	}
	f := fnv.New32a()
	f.Write([]byte(key))
	h := f.Sum32()
	for range 3 {
		h = (h ^ h>>15) * 0x2C1B3C6D
	}
	return int(int64(h) % int64(groups)), api.OK
}

// brief keeps a long string out of a test's words.
func brief(s string) string {
	if len(s) > 40 {
		return s[:40] + ".."
	}
	return s
}

// briefKey does so for a state's key.
func briefKey(k api.StateKey) string {
	return fmt.Sprintf("{%d %d %+q %+q %+q}", k.State, k.Group, brief(k.Key), brief(k.Space), brief(k.Sub))
}

// isCheck holds what Check answers for k against what is wanted.
func isCheck(t *testing.T, k api.StateKey, e api.Errno) {
	t.Helper()
	if ge := keys.Check(k); ge != e {
		t.Errorf("Check(%s) = %v, want %v", briefKey(k), ge, e)
	}
}

// isEncode does so for Encode.
func isEncode(t *testing.T, k api.StateKey, s string, e api.Errno) {
	t.Helper()
	if gs, ge := keys.Encode(k); gs != s || ge != e {
		t.Errorf("Encode(%s) = % x, %v, want % x, %v", briefKey(k), brief(gs), ge, brief(s), e)
	}
}

// isDecode does so for Decode.
func isDecode(t *testing.T, s string, k api.StateKey, e api.Errno) {
	t.Helper()
	if gk, ge := keys.Decode(s); gk != k || ge != e {
		t.Errorf("Decode(% x) = %s, %v, want %s, %v", brief(s), briefKey(gk), ge, briefKey(k), e)
	}
}

// noDecode wants that s is no encoding.
func noDecode(t *testing.T, s string) {
	t.Helper()
	isDecode(t, s, api.StateKey{}, api.ErrForm)
}

// isCmp does so for Cmp.
func isCmp(t *testing.T, a, b api.StateKey, want int) {
	t.Helper()
	if got := keys.Cmp(a, b); got != want {
		t.Errorf("Cmp(%s, %s) = %d, want %d", briefKey(a), briefKey(b), got, want)
	}
}

// isRange does so for Range.
func isRange(t *testing.T, k api.StateKey, n int, from, to string, e api.Errno) {
	t.Helper()
	if gf, gt, ge := keys.Range(k, n); gf != from || gt != to || ge != e {
		t.Errorf("Range(%s, %d) = % x, % x, %v, want % x, % x, %v", briefKey(k), n, brief(gf), brief(gt), ge, brief(from), brief(to), e)
	}
}

// isGroup does so for Group.
func isGroup(t *testing.T, key string, groups, want int, e api.Errno) {
	t.Helper()
	if got, ge := keys.Group(key, groups); got != want || ge != e {
		t.Errorf("Group(%q, %d) = %d, %v, want %d, %v", brief(key), groups, got, ge, want, e)
	}
}

// encode returns the encoding of a valid state's key.
func encode(t *testing.T, k api.StateKey) string {
	t.Helper()
	s, e := keys.Encode(k)
	if e != api.OK {
		t.Fatalf("Encode(%s): %v", briefKey(k), e)
	}
	return s
}

// bounds returns the range of a valid state's key.
func bounds(t *testing.T, k api.StateKey, n int) (from, to string) {
	t.Helper()
	from, to, e := keys.Range(k, n)
	if e != api.OK {
		t.Fatalf("Range(%s, %d): %v", briefKey(k), n, e)
	}
	return from, to
}

// P3.1: State and Group at their ends, and beyond them.
func TestCheckNumbers(t *testing.T) {
	for n := range 64 {
		isCheck(t, api.StateKey{State: n}, api.OK)
		isCheck(t, api.StateKey{Group: n}, api.OK)
		isCheck(t, api.StateKey{State: n, Group: 63 - n, Key: "a", Space: "b", Sub: "c"}, api.OK)
	}
	for _, n := range outside {
		isCheck(t, api.StateKey{State: n}, api.ErrArg)
		isCheck(t, api.StateKey{Group: n}, api.ErrArg)
		isCheck(t, api.StateKey{State: 63, Group: n, Key: "a"}, api.ErrArg)
		isCheck(t, api.StateKey{State: n, Group: 63, Key: "a"}, api.ErrArg)
	}
}

// P3.1: each of the texts with 64 bytes, with 65, and with far more.
func TestCheckTexts(t *testing.T) {
	for _, p := range parts() {
		isCheck(t, api.StateKey{Key: p}, api.OK)
		isCheck(t, api.StateKey{Space: p}, api.OK)
		isCheck(t, api.StateKey{Sub: p}, api.OK)
		isCheck(t, api.StateKey{State: 63, Group: 63, Key: p, Space: p, Sub: p}, api.OK)
	}
	for _, p := range append(long(65), strings.Repeat("é", 33), strings.Repeat("z", 1<<20)) {
		isCheck(t, api.StateKey{Key: p}, api.ErrLong)
		isCheck(t, api.StateKey{Space: p}, api.ErrLong)
		isCheck(t, api.StateKey{Sub: p}, api.ErrLong)
		isCheck(t, api.StateKey{State: 63, Group: 63, Key: p, Space: p, Sub: p}, api.ErrLong)
	}
}

// P3.1: ErrArg comes first, whichever fields are wrong.
func TestCheckOrderOfErrors(t *testing.T) {
	good, bad := strings.Repeat("x", 64), strings.Repeat("x", 65)
	for _, state := range []int{-1, 0, 63, 64} {
		for _, group := range []int{-1, 0, 63, 64} {
			for _, key := range []string{good, bad} {
				for _, space := range []string{good, bad} {
					for _, sub := range []string{good, bad} {
						k := api.StateKey{State: state, Group: group, Key: key, Space: space, Sub: sub}
						isCheck(t, k, wantCheck(k))
					}
				}
			}
		}
	}
	isCheck(t, api.StateKey{State: 64, Key: bad}, api.ErrArg)
	isCheck(t, api.StateKey{Group: -1, Sub: bad}, api.ErrArg)
}

// P3.1: the chapter's example, and known encodings.
func TestEncodeExamples(t *testing.T) {
	isEncode(t, api.StateKey{State: 1, Group: 2, Key: "a", Sub: "x"}, "\x01\x02a\x00\x01\x00\x01x", api.OK)
	isEncode(t, api.StateKey{}, "\x00\x00\x00\x01\x00\x01", api.OK)
	isEncode(t, api.StateKey{State: 63, Group: 63}, "\x3f\x3f\x00\x01\x00\x01", api.OK)
	isEncode(t, api.StateKey{State: 3, Group: 4, Key: "k", Space: "s", Sub: "u"}, "\x03\x04k\x00\x01s\x00\x01u", api.OK)
	isEncode(t, api.StateKey{Key: "\x00", Space: "\xff", Sub: "\x00\xff"}, "\x00\x00\x00\xff\x00\x01\xff\x00\x01\x00\xff", api.OK)
	isEncode(t, api.StateKey{Key: "a\x00b", Space: "\x00\x01"}, "\x00\x00a\x00\xffb\x00\x01\x00\xff\x01\x00\x01", api.OK)
	isEncode(t, api.StateKey{Sub: "\x00\x01\x00\x02"}, "\x00\x00\x00\x01\x00\x01\x00\x01\x00\x02", api.OK)
	isEncode(t, api.StateKey{State: 64}, "", api.ErrArg)
	isEncode(t, api.StateKey{Group: 64}, "", api.ErrArg)
	isEncode(t, api.StateKey{Key: strings.Repeat("x", 65)}, "", api.ErrLong)
}

// P3.1: many state's keys, and Check's error for those that are not valid.
func TestEncode(t *testing.T) {
	for _, k := range append(valid(), wild()...) {
		if e := wantCheck(k); e != api.OK {
			isEncode(t, k, "", e)
			continue
		}
		isEncode(t, k, slowFirst(k, 5), api.OK)
	}
}

// P3.1: the chapter's examples, and the edges of what is no encoding.
func TestDecodeExamples(t *testing.T) {
	isDecode(t, "\x01\x02a\x00\x01\x00\x01x", api.StateKey{State: 1, Group: 2, Key: "a", Sub: "x"}, api.OK)
	isDecode(t, "\x00\x00\x00\x01\x00\x01", api.StateKey{}, api.OK)
	isDecode(t, "\x3f\x3f\x00\x01\x00\x01", api.StateKey{State: 63, Group: 63}, api.OK)
	isDecode(t, "\x00\x00\x00\x01\x00\x01\x00\x02", api.StateKey{Sub: "\x00\x02"}, api.OK)
	isDecode(t, "\x00\x00\x00\xff\x00\x01\xff\x00\x01\xff\x00", api.StateKey{Key: "\x00", Space: "\xff", Sub: "\xff\x00"}, api.OK)
	noDecode(t, "\x40\x00\x00\x01\x00\x01")
	noDecode(t, "\x00\x40\x00\x01\x00\x01")
	noDecode(t, "\x01\x02a")
	noDecode(t, "")
	noDecode(t, "\x01")
	noDecode(t, "\x01\x02")
	noDecode(t, "\x01\x02\x00")
	noDecode(t, "\x01\x02\x00\x01")
	noDecode(t, "\x01\x02\x00\x01\x00")
	noDecode(t, "\x01\x02\x00\x02\x00\x01")
	noDecode(t, "\x01\x02\x00\x01\x00\x02")
	noDecode(t, "\x01\x02\x00\x00\x01\x00\x01")
	noDecode(t, "\x01\x02a\x00\x01b\x00\xff\x00")
	noDecode(t, strings.Repeat("\xff", 100))
	noDecode(t, strings.Repeat("\x01", 1<<20))
}

// P3.1, P3.5: all strings of up to six bytes behind a State and a Group, of the bytes that matter.
func TestDecodeHeldAgainstAllParts(t *testing.T) {
	for _, head := range []string{"\x00\x00", "\x3f\x3f", "\x40\x3f", "\x3f\x40"} {
		for _, rest := range every("\x00\x01\x02a\xff", 6) {
			k, e := wantDecode(head + rest)
			isDecode(t, head+rest, k, e)
			if e == api.OK {
				isEncode(t, k, head+rest, api.OK)
			}
		}
	}
}

// P3.1: State and Group of all bytes.
func TestDecodeNumbers(t *testing.T) {
	for state := range 256 {
		for group := range 256 {
			s := string([]byte{byte(state), byte(group)}) + "a\x00\x01b\x00\x01c"
			if state < 64 && group < 64 {
				isDecode(t, s, api.StateKey{State: state, Group: group, Key: "a", Space: "b", Sub: "c"}, api.OK)
			} else {
				noDecode(t, s)
			}
		}
	}
}

// P3.1: texts of 64 bytes, and of 65.
func TestDecodeLongTexts(t *testing.T) {
	for _, p := range long(64) {
		for _, k := range []api.StateKey{{Key: p}, {Space: p}, {Sub: p}, {State: 63, Group: 63, Key: p, Space: p, Sub: p}} {
			isDecode(t, slowFirst(k, 5), k, api.OK)
		}
	}
	for _, p := range append(long(65), strings.Repeat("\x00", 1000), strings.Repeat("z", 1<<20)) {
		for _, k := range []api.StateKey{{Key: p}, {Space: p}, {Sub: p}, {State: 63, Group: 63, Key: p, Space: p, Sub: p}} {
			noDecode(t, slowFirst(k, 5))
		}
	}
}

// P3.1: an encoding that is cut ahead of Sub is none; one that is cut in it is that of another state's key.
func TestDecodeCut(t *testing.T) {
	for _, k := range valid() {
		s, head := slowFirst(k, 5), len(slowFirst(k, 4))
		for i := range s {
			if i < head {
				noDecode(t, s[:i])
				continue
			}
			other := k
			other.Sub = k.Sub[:i-head]
			isDecode(t, s[:i], other, api.OK)
		}
	}
}

// P3.2: each field decides, whatever the fields behind it are.
func TestCmpExamples(t *testing.T) {
	low := api.StateKey{State: 1, Group: 1, Key: "b", Space: "b", Sub: "b"}
	isCmp(t, low, low, 0)
	isCmp(t, api.StateKey{}, api.StateKey{}, 0)
	for _, high := range []api.StateKey{
		{State: 2},
		{State: 1, Group: 2},
		{State: 1, Group: 1, Key: "c"},
		{State: 1, Group: 1, Key: "b\x00"},
		{State: 1, Group: 1, Key: "b", Space: "c"},
		{State: 1, Group: 1, Key: "b", Space: "b\x00"},
		{State: 1, Group: 1, Key: "b", Space: "b", Sub: "c"},
		{State: 1, Group: 1, Key: "b", Space: "b", Sub: "b\x00"},
	} {
		isCmp(t, low, high, -1)
		isCmp(t, high, low, 1)
	}
	isCmp(t, api.StateKey{Key: ""}, api.StateKey{Key: "\x00"}, -1)
	isCmp(t, api.StateKey{Key: "a\xff"}, api.StateKey{Key: "b"}, -1)
	isCmp(t, api.StateKey{Key: "\x7f"}, api.StateKey{Key: "\x80"}, -1)
	isCmp(t, api.StateKey{Key: "\xff"}, api.StateKey{Key: "é"}, 1)
	isCmp(t, api.StateKey{Sub: "9"}, api.StateKey{Sub: "10"}, 1)
}

// P3.2: state's keys that are not valid.
func TestCmpNotValid(t *testing.T) {
	isCmp(t, api.StateKey{State: -1}, api.StateKey{State: 0}, -1)
	isCmp(t, api.StateKey{State: math.MinInt}, api.StateKey{State: math.MaxInt}, -1)
	isCmp(t, api.StateKey{State: math.MaxInt}, api.StateKey{State: math.MinInt}, 1)
	isCmp(t, api.StateKey{Group: math.MinInt}, api.StateKey{Group: 1}, -1)
	isCmp(t, api.StateKey{State: 256}, api.StateKey{State: 1}, 1)
	isCmp(t, api.StateKey{State: 1 << 32}, api.StateKey{}, 1)
	isCmp(t, api.StateKey{State: 64, Group: 64}, api.StateKey{State: 64, Group: 64}, 0)
	x := strings.Repeat("x", 100000)
	isCmp(t, api.StateKey{Key: x}, api.StateKey{Key: x + "\x00"}, -1)
	isCmp(t, api.StateKey{Key: x, Sub: "a"}, api.StateKey{Key: x + "a"}, -1)
	isCmp(t, api.StateKey{Sub: x + "b"}, api.StateKey{Sub: x + "a"}, 1)
	isCmp(t, api.StateKey{Space: x}, api.StateKey{Space: x}, 0)
}

// P3.2, P3.7: all pairs of many: the fields decide in their sequence, and the other way round it is the negative; 0 is for equal ones alone.
func TestCmpPairs(t *testing.T) {
	l := append(valid(), wild()...)
	for _, a := range l {
		for _, b := range l {
			got := keys.Cmp(a, b)
			if want := wantCmp(a, b); got != want {
				t.Fatalf("Cmp(%s, %s) = %d, want %d", briefKey(a), briefKey(b), got, want)
			}
			if back := keys.Cmp(b, a); back != -got || got == 0 != (a == b) {
				t.Fatalf("Cmp(%s, %s) = %d, and the other way round %d", briefKey(a), briefKey(b), got, back)
			}
		}
	}
}

// P3.7: what is before one is before all that come after that one.
func TestCmpTransitive(t *testing.T) {
	var l []api.StateKey
	for i, k := range append(valid(), wild()...) {
		if i%3 == 0 {
			l = append(l, k)
		}
	}
	for _, a := range l {
		for _, b := range l {
			if keys.Cmp(a, b) != -1 {
				continue
			}
			for _, c := range l {
				if keys.Cmp(b, c) == -1 && keys.Cmp(a, c) != -1 {
					t.Fatalf("%s is before %s, that before %s, but not the first before the last", briefKey(a), briefKey(b), briefKey(c))
				}
			}
		}
	}
}

// P3.3: the chapter's examples, and known ranges.
func TestRangeExamples(t *testing.T) {
	k := api.StateKey{State: 1, Group: 2, Key: "a", Space: "\xff", Sub: "x"}
	isRange(t, k, 1, "\x01", "\x02", api.OK)
	isRange(t, k, 2, "\x01\x02", "\x01\x03", api.OK)
	isRange(t, k, 3, "\x01\x02a\x00\x01", "\x01\x02a\x00\x02", api.OK)
	isRange(t, k, 4, "\x01\x02a\x00\x01\xff\x00\x01", "\x01\x02a\x00\x01\xff\x00\x02", api.OK)
	isRange(t, api.StateKey{}, 4, "\x00\x00\x00\x01\x00\x01", "\x00\x00\x00\x01\x00\x02", api.OK)
	isRange(t, api.StateKey{State: 63, Group: 63}, 1, "\x3f", "\x40", api.OK)
	isRange(t, api.StateKey{State: 63, Group: 63}, 2, "\x3f\x3f", "\x3f\x40", api.OK)
	isRange(t, api.StateKey{Key: "\x00"}, 3, "\x00\x00\x00\xff\x00\x01", "\x00\x00\x00\xff\x00\x02", api.OK)
	isRange(t, api.StateKey{State: 1}, 1, "\x01", "\x02", api.OK)
}

// P3.3: from 1 to 4 parts there may be.
func TestRangeParts(t *testing.T) {
	for _, n := range []int{0, 5, 6, -1, 64, 257, 260, 1 << 32, 1<<32 + 1, math.MinInt, math.MaxInt} {
		isRange(t, api.StateKey{State: 1, Group: 2, Key: "a"}, n, "", "", api.ErrArg)
		isRange(t, api.StateKey{}, n, "", "", api.ErrArg)
		isRange(t, api.StateKey{Key: strings.Repeat("x", 65)}, n, "", "", api.ErrArg)
	}
}

// P3.3: fields that are not selected are ignored, whatever they are; of those that are, ErrArg is told first.
func TestRangeErrors(t *testing.T) {
	good, bad := strings.Repeat("x", 64), strings.Repeat("x", 65)
	for _, n := range outside {
		for p := range 6 {
			isRange(t, api.StateKey{State: n, Key: bad}, p, "", "", api.ErrArg)
		}
		isRange(t, api.StateKey{State: 1, Group: n, Key: bad, Space: bad, Sub: bad}, 1, "\x01", "\x02", api.OK)
		for p := 2; p < 5; p++ {
			isRange(t, api.StateKey{State: 1, Group: n, Key: bad, Space: bad, Sub: bad}, p, "", "", api.ErrArg)
		}
	}
	isRange(t, api.StateKey{Key: bad, Space: bad, Sub: bad}, 1, "\x00", "\x01", api.OK)
	isRange(t, api.StateKey{Key: bad, Space: bad, Sub: bad}, 2, "\x00\x00", "\x00\x01", api.OK)
	isRange(t, api.StateKey{Key: bad, Space: bad, Sub: bad}, 3, "", "", api.ErrLong)
	isRange(t, api.StateKey{Key: bad}, 3, "", "", api.ErrLong)
	isRange(t, api.StateKey{Key: bad}, 4, "", "", api.ErrLong)
	isRange(t, api.StateKey{Space: bad, Sub: bad}, 3, "\x00\x00\x00\x01", "\x00\x00\x00\x02", api.OK)
	isRange(t, api.StateKey{Space: bad}, 4, "", "", api.ErrLong)
	isRange(t, api.StateKey{Sub: bad}, 4, "\x00\x00\x00\x01\x00\x01", "\x00\x00\x00\x01\x00\x02", api.OK)
	isRange(t, api.StateKey{Key: good, Space: good, Sub: bad}, 4, "\x00\x00"+good+"\x00\x01"+good+"\x00\x01", "\x00\x00"+good+"\x00\x01"+good+"\x00\x02", api.OK)
}

// P3.3: many state's keys, valid and not, with all parts.
func TestRange(t *testing.T) {
	for _, k := range append(valid(), wild()...) {
		for n := -1; n < 7; n++ {
			from, to, e := wantRange(k, n)
			isRange(t, k, n, from, to, e)
		}
	}
}

// P3.3: from is the longest prefix that all encodings with these fields share.
func TestRangeLongestPrefix(t *testing.T) {
	for i, k := range valid() {
		if i%5 != 0 {
			continue
		}
		for n := 1; n < 5; n++ {
			from, _ := bounds(t, k, n)
			shared := encode(t, k)
			for _, other := range valid() {
				with := other
				with.State = k.State
				if n >= 2 {
					with.Group = k.Group
				}
				if n >= 3 {
					with.Key = k.Key
				}
				if n >= 4 {
					with.Space = k.Space
				}
				shared = prefix(shared, encode(t, with))
			}
			if shared != from {
				t.Errorf("Range(%s, %d) is from % x on, the encodings share % x", briefKey(k), n, brief(from), brief(shared))
			}
		}
	}
}

// prefix returns the longest string with which both begin.
func prefix(a, b string) string {
	for i := range min(len(a), len(b)) {
		if a[i] != b[i] {
			return a[:i]
		}
	}
	return a[:min(len(a), len(b))]
}

// P3.3, P3.6: an encoding lies in a range exactly if it has the selected fields, so in that of its own.
func TestMembership(t *testing.T) {
	l := valid()
	for _, k := range l {
		for n := 1; n < 5; n++ {
			from, to := bounds(t, k, n)
			for _, other := range l {
				s := encode(t, other)
				if in := from <= s && s < to; in != same(k, other, n) {
					t.Fatalf("Range(%s, %d): %s lies in it: %t", briefKey(k), n, briefKey(other), in)
				}
			}
		}
	}
}

// P3.4: the chapter's examples, and known groups.
func TestGroupExamples(t *testing.T) {
	isGroup(t, "a", 1, 0, api.OK)
	isGroup(t, "a", 0, 0, api.ErrArg)
	isGroup(t, "", 64, 59, api.OK)
	isGroup(t, "a", 64, 63, api.OK)
	isGroup(t, "a", 63, 20, api.OK)
	isGroup(t, "user-17", 10, 4, api.OK)
	isGroup(t, "\x00\xff", 64, 40, api.OK)
}

// P3.4: the count of groups at its ends and beyond them.
func TestGroupCounts(t *testing.T) {
	for _, n := range []int{0, -1, 65, 66, 128, 256, 257, -64, 1 << 32, 1<<32 + 1, math.MaxInt, math.MinInt} {
		isGroup(t, "a", n, 0, api.ErrArg)
		isGroup(t, "", n, 0, api.ErrArg)
		isGroup(t, "user-17", n, 0, api.ErrArg)
	}
	for _, key := range parts() {
		isGroup(t, key, 1, 0, api.OK)
	}
}

// P3.4, P3.8: many keys, long ones too, among each count of groups: the group is one of them, and none stays empty.
func TestGroup(t *testing.T) {
	r := source()
	l := append(parts(), strings.Repeat("z", 65), strings.Repeat("\x00", 1<<16))
	for range 1000 {
		l = append(l, some(r, r.IntN(40)))
	}
	for n := 1; n <= 64; n++ {
		var filled [64]bool
		for _, key := range l {
			want, e := wantGroup(key, n)
			isGroup(t, key, n, want, e)
			g, _ := keys.Group(key, n)
			if g < 0 || g >= n {
				t.Fatalf("Group(%q, %d) = %d", brief(key), n, g)
			}
			filled[g] = true
		}
		if slices.Contains(filled[:n], false) {
			t.Errorf("of %d groups, some have none of %d keys", n, len(l))
		}
	}
}

// P3.5: every valid state's key comes back.
func TestRoundTrip(t *testing.T) {
	for _, k := range valid() {
		isDecode(t, encode(t, k), k, api.OK)
	}
	r := source()
	for range 2000 {
		k := api.StateKey{State: r.IntN(64), Group: r.IntN(64), Key: some(r, r.IntN(65)), Space: some(r, r.IntN(65)), Sub: some(r, r.IntN(65))}
		isDecode(t, encode(t, k), k, api.OK)
	}
}

// P3.5: the encodings are in the order of the state's keys.
func TestOrderOfEncodings(t *testing.T) {
	l := valid()
	for _, a := range l {
		for _, b := range l {
			got := strings.Compare(encode(t, a), encode(t, b))
			if want := wantCmp(a, b); got != want || keys.Cmp(a, b) != got {
				t.Fatalf("%s and %s: their encodings are in the order %d, Cmp says %d, want %d", briefKey(a), briefKey(b), got, keys.Cmp(a, b), want)
			}
		}
	}
}

// P3.8: the range for more parts lies in that for fewer.
func TestNesting(t *testing.T) {
	for _, k := range valid() {
		from, to := bounds(t, k, 1)
		for n := 2; n < 5; n++ {
			inner, end := bounds(t, k, n)
			if inner < from || end > to || inner >= end {
				t.Errorf("Range(%s, %d) is no part of that for one field less", briefKey(k), n)
			}
			from, to = inner, end
		}
	}
}

// P3.8: of two ranges one lies in the other, or they have nothing in common.
func TestNestedOrDisjoint(t *testing.T) {
	type span struct{ from, to string }
	seen := map[span]int{}
	for _, k := range valid() {
		for n := 1; n < 5; n++ {
			from, to := bounds(t, k, n)
			seen[span{from, to}] = n
		}
	}
	for a := range seen {
		for b := range seen {
			apart := a.to <= b.from || b.to <= a.from
			within := a.from <= b.from && b.to <= a.to || b.from <= a.from && a.to <= b.to
			if apart == within {
				t.Fatalf("the range from % x to % x, and that from % x to % x", brief(a.from), brief(a.to), brief(b.from), brief(b.to))
			}
		}
	}
}

// shares tells whether two strings lie in the same memory.
func shares(a, b string) bool {
	if a == "" || b == "" {
		return false
	}
	p, q := uintptr(unsafe.Pointer(unsafe.StringData(a))), uintptr(unsafe.Pointer(unsafe.StringData(b)))
	return p < q+uintptr(len(b)) && q < p+uintptr(len(a))
}

// The rules that hold everywhere: a result is new memory.
func TestNewMemory(t *testing.T) {
	k := api.StateKey{State: 1, Group: 2, Key: "a key", Space: "a space", Sub: "a sub key"}
	s := encode(t, k)
	got, _ := keys.Decode(s)
	from, to := bounds(t, k, 4)
	l := []string{k.Key, k.Space, k.Sub, s, got.Key, got.Space, got.Sub, from, to}
	for i, a := range l {
		for _, b := range l[i+1:] {
			if shares(a, b) {
				t.Errorf("%q and %q share memory", a, b)
			}
		}
	}
}

// P1, P2: every call ends without a panic, and the same call has the same result, whatever was called between.
func TestSameAgain(t *testing.T) {
	l := wild()
	for range 2 {
		for i, k := range l {
			isCheck(t, k, wantCheck(k))
			other := l[(i*7+1)%len(l)]
			isCmp(t, k, other, wantCmp(k, other))
			from, to, e := wantRange(k, i%6)
			isRange(t, k, i%6, from, to, e)
			group, e := wantGroup(k.Key, i)
			isGroup(t, k.Key, i, group, e)
			keys.Decode(k.Key)
			keys.Decode(k.Sub + k.Key)
		}
	}
}
