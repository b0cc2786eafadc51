package batch_test

import (
	"encoding/binary"
	"math/rand/v2"
	"strings"
	"testing"

	"freshet/api"
	"freshet/batch"
)

// mostSeq is the greatest Seq that the chapter allows, 2^56 - 64.
const mostSeq = 72057594037927872

// source returns numbers that look random and are the same in each run.
func source() *rand.Rand { return rand.New(rand.NewPCG(9, 10)) }

// some returns n bytes.
func some(r *rand.Rand, n int) string {
	b := make([]byte, n)
	for i := range b {
		b[i] = byte(r.Uint32())
	}
	return string(b)
}

// every returns all strings of at most so many of these bytes, the empty one first.
func every(alphabet string, most int) []string {
	l := []string{""}
	for from := 0; most > 0; most-- {
		to := len(l)
		for _, s := range l[from:to] {
			for i := range len(alphabet) {
				l = append(l, s+alphabet[i:i+1])
			}
		}
		from = to
	}
	return l
}

// put and del are writes, and of a batch.
func put(key, value string) api.Write { return api.Write{Kind: 1, Key: key, Value: value} }
func del(key string) api.Write        { return api.Write{Kind: 2, Key: key} }
func of(seq uint64, l ...api.Write) api.Batch {
	return api.Batch{Seq: seq, List: l}
}

// puts returns n writes, no two of which are the same.
func puts(n int) []api.Write {
	l := make([]api.Write, n)
	for i := range l {
		l[i] = put(string([]byte{'k', byte(i), byte(i >> 8)}), strings.Repeat("v", i%5))
	}
	return l
}

// fill returns n bytes, unlike for each c.
func fill(n int, c byte) string { return strings.Repeat(string([]byte{c}), n) }

// wantCheck works out what Check answers, cause by cause in the order of the chapter's list.
func wantCheck(b api.Batch) api.Errno {
	arg := len(b.List) == 0 || b.Seq == 0 || b.Seq > mostSeq
	long := len(b.List) > 64
	for _, w := range b.List {
		arg = arg || w.Kind < 1 || w.Kind > 2 || len(w.Key) == 0 || w.Kind == 2 && len(w.Value) > 0
		long = long || len(w.Key) > 520 || len(w.Value) > 2048
	}
	switch {
	case arg:
		return api.ErrArg
	case long:
		return api.ErrLong
	}
	return api.OK
}

// short is the library's short number.
func short(n uint64) string { return string(binary.AppendUvarint(nil, n)) }

// field is a string behind its length.
func field(s string) string { return short(uint64(len(s))) + s }

// slowWrite is a write as bytes, valid or not; the value of a delete, which may not be, stands where that of a put does.
func slowWrite(w api.Write) string {
	s := string([]byte{byte(w.Kind)}) + field(w.Key)
	if w.Kind == 1 || w.Value != "" {
		s += field(w.Value)
	}
	return s
}

// slowEncode is a batch as bytes, valid or not.
func slowEncode(b api.Batch) string {
	s := short(b.Seq) + short(uint64(len(b.List)))
	for _, w := range b.List {
		s += slowWrite(w)
	}
	return s
}

// slowCut takes a short number off s.
func slowCut(s string) (n uint64, rest string, ok bool) {
	n, size := binary.Uvarint([]byte(s[:min(len(s), 10)]))
	if size <= 0 || short(n) != s[:size] {
		return 0, "", false
	}
	return n, s[size:], true
}

// slowField takes a field off s.
func slowField(s string) (t, rest string, ok bool) {
	n, rest, ok := slowCut(s)
	if !ok || n > uint64(len(rest)) {
		return "", "", false
	}
	return rest[:n], rest[n:], true
}

// wantDecode works out what Decode answers: all writes that stand in s, whatever their number, are read to its end, and what they make is then held against what it should be.
func wantDecode(s string) (api.Batch, api.Errno) {
	var b api.Batch
	seq, rest, ok := slowCut(s)
	if !ok {
		return b, api.ErrForm
	}
	many, rest, ok := slowCut(rest)
	if !ok {
		return b, api.ErrForm
	}
	l := []api.Write{}
	for rest != "" {
		w := api.Write{Kind: int(rest[0])}
		if w.Key, rest, ok = slowField(rest[1:]); !ok {
			return b, api.ErrForm
		}
		if w.Kind == 1 {
			if w.Value, rest, ok = slowField(rest); !ok {
				return b, api.ErrForm
			}
		}
		l = append(l, w)
	}
	got := api.Batch{Seq: seq, List: l}
	if uint64(len(l)) != many || wantCheck(got) != api.OK {
		return b, api.ErrForm
	}
	return got, api.OK
}

// brief keeps a long string out of a test's words.
func brief(s string) string {
	if len(s) > 60 {
		return s[:60] + ".."
	}
	return s
}

// equal holds two batches against each other, field by field.
func equal(a, b api.Batch) bool {
	if a.Seq != b.Seq || len(a.List) != len(b.List) {
		return false
	}
	for i, w := range a.List {
		v := b.List[i]
		if w.Kind != v.Kind || w.Key != v.Key || w.Value != v.Value {
			return false
		}
	}
	return true
}

// isCheck holds what Check answers against what is wanted, and what all calls make of a batch against that.
func isCheck(t *testing.T, what string, b api.Batch, e api.Errno) {
	t.Helper()
	if got := batch.Check(b); got != e {
		t.Errorf("Check of %s: %v, want %v", what, got, e)
	}
	if want := wantCheck(b); want != e {
		t.Errorf("the test's own check of %s: %v, want %v", what, want, e)
	}
	want := ""
	if e == api.OK {
		want = slowEncode(b)
	}
	if s, got := batch.Encode(b); s != want || got != e {
		t.Errorf("Encode of %s: % x, %v, want % x, %v", what, brief(s), got, brief(want), e)
	}
	isRows(t, what, b, e == api.OK)
}

// isRows holds what Rows and Next answer against what is wanted.
func isRows(t *testing.T, what string, b api.Batch, valid bool) {
	t.Helper()
	l, next := batch.Rows(b), batch.Next(b)
	if !valid {
		if len(l) != 0 || next != 0 {
			t.Errorf("%s, which is not valid: %d rows, Next %d", what, len(l), next)
		}
		return
	}
	if len(l) != len(b.List) || next != b.Seq+uint64(len(b.List)) {
		t.Errorf("%s: %d rows, Next %d, want %d, %d", what, len(l), next, len(b.List), b.Seq+uint64(len(b.List)))
		return
	}
	for i, w := range b.List {
		if want := (api.Row{Key: w.Key, Seq: b.Seq + uint64(i), Kind: w.Kind, Value: w.Value}); l[i] != want {
			t.Errorf("row %d of %s: %q, number %d, kind %d, %q, want %q, %d, %d, %q", i, what, brief(l[i].Key), l[i].Seq, l[i].Kind, brief(l[i].Value), brief(w.Key), want.Seq, w.Kind, brief(w.Value))
		}
	}
}

// isDecode holds what Decode answers against a batch.
func isDecode(t *testing.T, s string, want api.Batch) {
	t.Helper()
	if got, e := batch.Decode(s); !equal(got, want) || e != api.OK {
		t.Errorf("Decode(% x): %d writes from %d, %v, want %d from %d", brief(s), len(got.List), got.Seq, e, len(want.List), want.Seq)
	}
}

// isNone tests that s is no encoding.
func isNone(t *testing.T, s string) {
	t.Helper()
	if got, e := batch.Decode(s); got.Seq != 0 || len(got.List) != 0 || e != api.ErrForm {
		t.Errorf("Decode(% x): %d writes from %d, %v, want ErrForm", brief(s), len(got.List), got.Seq, e)
	}
}

// isWanted holds what Decode answers against what the chapter says of s, and tells whether it is an encoding.
func isWanted(t *testing.T, s string) bool {
	t.Helper()
	want, e := wantDecode(s)
	if e != api.OK {
		isNone(t, s)
		return false
	}
	isDecode(t, s, want)
	if again, e := batch.Encode(want); again != s || e != api.OK {
		t.Errorf("Encode of Decode(% x): % x, %v", brief(s), brief(again), e)
	}
	return true
}
