package block_test

import (
	"cmp"
	"encoding/binary"
	"fmt"
	"math/rand/v2"
	"slices"
	"strings"
	"testing"

	"freshet/api"
	"freshet/block"
)

// compare tells the order of two places: by their keys and, from the greatest on, by their numbers.
func compare(a, b api.Row) int {
	return cmp.Or(cmp.Compare(a.Key, b.Key), cmp.Compare(b.Seq, a.Seq))
}

// isArg and isLong tell the causes why a row is not valid.
func isArg(r api.Row) bool {
	return r.Kind < 1 || r.Kind > 2 || len(r.Key) == 0 || r.Seq == 0 || r.Seq > 1<<56-1 || r.Kind == 2 && len(r.Value) > 0
}

func isLong(r api.Row) bool { return len(r.Key) > 520 || len(r.Value) > 2048 }

// slowCheck is what Check answers.
func slowCheck(r api.Row) api.Errno {
	switch {
	case isArg(r):
		return api.ErrArg
	case isLong(r):
		return api.ErrLong
	}
	return api.OK
}

// slowOrder holds each row against each further one.
func slowOrder(l []api.Row) bool {
	for i, a := range l {
		for _, b := range l[i+1:] {
			if compare(a, b) >= 0 {
				return false
			}
		}
	}
	return true
}

// short is the library's short number, field a string behind its length.
func short(n uint64) string  { return string(binary.AppendUvarint(nil, n)) }
func field(s string) string  { return short(uint64(len(s))) + s }
func four(n int) string      { return string(binary.LittleEndian.AppendUint32(nil, uint32(n))) }
func shared(a, b string) int { return sharedUpTo(a, b, min(len(a), len(b))) }

// sharedUpTo is the greatest number, at most so great, of leading bytes that are the same.
func sharedUpTo(a, b string, most int) int {
	for a[:most] != b[:most] {
		most--
	}
	return most
}

// slowRow is a row as bytes, behind so many shared bytes; the value of a row that is no put, which may not be, stands where that of a put does.
func slowRow(r api.Row, shared int) string {
	s := short(uint64(shared)) + field(r.Key[shared:]) + short(r.Seq) + string([]byte{byte(r.Kind)})
	if r.Kind == 1 || r.Value != "" {
		s += field(r.Value)
	}
	return s
}

// slowParts is rows as the three parts of a block, valid or not.
func slowParts(l []api.Row, restart int) (rows, offsets, end string) {
	for i, r := range l {
		if i%restart == 0 {
			offsets += four(len(rows))
			rows += slowRow(r, 0)
		} else {
			rows += slowRow(r, shared(l[i-1].Key, r.Key))
		}
	}
	return rows, offsets, four(len(offsets)/4) + four(restart)
}

// slowBlock is rows as a block, valid or not.
func slowBlock(l []api.Row, restart int) string {
	rows, offsets, end := slowParts(l, restart)
	return rows + offsets + end
}

// slowBuild is what Build answers.
func slowBuild(l []api.Row, restart int) (string, api.Errno) {
	if restart < 1 || restart > 64 || slices.ContainsFunc(l, isArg) || !slices.IsSortedFunc(l, compare) {
		return "", api.ErrArg
	}
	for i := 1; i < len(l); i++ {
		if compare(l[i-1], l[i]) == 0 {
			return "", api.ErrArg
		}
	}
	if len(l) > 1024 || slices.ContainsFunc(l, isLong) {
		return "", api.ErrLong
	}
	s := slowBlock(l, restart)
	if len(s) > 65536 {
		return "", api.ErrLong
	}
	return s, api.OK
}

// cut takes bytes off a string; after a step that failed, it stays at the end.
type cut struct {
	s      string
	failed bool
}

func (c *cut) take(n uint64) string {
	if n > uint64(len(c.s)) {
		c.s, c.failed = "", true
		return ""
	}
	t := c.s[:n]
	c.s = c.s[n:]
	return t
}

func (c *cut) short() uint64 {
	n, size := binary.Uvarint([]byte(c.s[:min(len(c.s), 10)]))
	if size <= 0 || short(n) != c.s[:size] {
		c.s, c.failed = "", true
		return 0
	}
	c.take(uint64(size))
	return n
}

// slowRows works out what Rows answers, from the block's end to its start, rule by rule.
func slowRows(s string) ([]api.Row, api.Errno) {
	none := func() ([]api.Row, api.Errno) { return nil, api.ErrForm }
	if len(s) < 8 || len(s) > 65536 {
		return none()
	}
	n := len(s)
	many, interval := binary.LittleEndian.Uint32([]byte(s[n-8:n-4])), binary.LittleEndian.Uint32([]byte(s[n-4:]))
	if interval < 1 || interval > 64 || uint64(many) > 1024 || int(many)*4 > n-8 {
		return none()
	}
	rows, offsets := s[:n-8-4*int(many)], s[n-8-4*int(many):n-8]
	var starts []int
	for i := range int(many) {
		starts = append(starts, int(binary.LittleEndian.Uint32([]byte(offsets[4*i:4*i+4]))))
	}
	l := []api.Row{}
	for c := (cut{s: rows}); c.s != ""; {
		var r, before api.Row
		if i := len(l); i%int(interval) == 0 {
			if i/int(interval) >= len(starts) || starts[i/int(interval)] != len(rows)-len(c.s) {
				return none()
			}
		} else {
			before = l[i-1]
		}
		most := c.short()
		rest := c.take(c.short())
		if c.failed || most > uint64(len(before.Key)) {
			return none()
		}
		r.Key = before.Key[:most] + rest
		r.Seq = c.short()
		kind := c.take(1)
		if kind == "\x01" {
			r.Value = c.take(c.short())
		}
		if c.failed || kind != "\x01" && kind != "\x02" || len(l) == 1024 || shared(before.Key, r.Key) != int(most) {
			return none()
		}
		r.Kind = int(kind[0])
		if isArg(r) || isLong(r) || len(l) > 0 && compare(l[len(l)-1], r) >= 0 {
			return none()
		}
		l = append(l, r)
	}
	if (len(l)+int(interval)-1)/int(interval) != int(many) {
		return none()
	}
	return l, api.OK
}

// slowSeek takes every row that is not before the place.
func slowSeek(s, key string, seq uint64) ([]api.Row, api.Errno) {
	l, e := slowRows(s)
	if e != api.OK {
		return nil, e
	}
	return slices.DeleteFunc(l, func(r api.Row) bool { return compare(r, api.Row{Key: key, Seq: seq}) < 0 }), api.OK
}

// source returns numbers that look random and are the same in each run.
func source(seed uint64) *rand.Rand { return rand.New(rand.NewPCG(seed, 11)) }

// some returns n bytes.
func some(r *rand.Rand, n int) string {
	b := make([]byte, n)
	for i := range b {
		b[i] = byte(r.Uint32())
	}
	return string(b)
}

// put and del are rows.
func put(key string, seq uint64, value string) api.Row {
	return api.Row{Key: key, Seq: seq, Kind: 1, Value: value}
}
func del(key string, seq uint64) api.Row { return api.Row{Key: key, Seq: seq, Kind: 2} }

// fill returns n bytes that are all c.
func fill(n int, c byte) string { return strings.Repeat(string([]byte{c}), n) }

// inOrder returns the rows in order, of each place the first one.
func inOrder(l []api.Row) []api.Row {
	l = slices.Clone(l)
	slices.SortStableFunc(l, compare)
	return slices.CompactFunc(l, func(a, b api.Row) bool { return compare(a, b) == 0 })
}

// someRow returns a valid row whose key is like others.
func someRow(r *rand.Rand) api.Row {
	var key string
	switch r.IntN(5) {
	case 0:
		key = some(r, 1+r.IntN(2))
	case 1:
		key = "user-" + string(rune('a'+r.IntN(4))) + "/" + some(r, r.IntN(2))
	case 2:
		key = strings.Repeat("k", 1+r.IntN(520))
	case 3:
		key = strings.Repeat("\x00", r.IntN(4)) + string(rune('a'+r.IntN(2)))
	default:
		key = string(rune('a' + r.IntN(3)))
	}
	row := put(key, 1+r.Uint64N(1<<(1+r.IntN(56))-1), "")
	switch r.IntN(6) {
	case 0:
		row.Kind = 2
	case 1:
		row.Value = some(r, r.IntN(300))
	default:
		row.Value = some(r, r.IntN(10))
	}
	return row
}

// someRows returns at most n valid rows that are in order.
func someRows(r *rand.Rand, n int) []api.Row {
	var l []api.Row
	for range n {
		l = append(l, someRow(r))
	}
	return inOrder(l)
}

// manyRows returns n short rows that are in order.
func manyRows(n int) []api.Row {
	l := make([]api.Row, n)
	for i := range l {
		l[i] = put(string([]byte{'k', byte(i >> 16), byte(i >> 8), byte(i)}), uint64(1+i%7), "v")
	}
	return l
}

// brief keeps a long string out of a test's words, and told many rows.
func brief(s string) string {
	if len(s) > 60 {
		return s[:60] + ".."
	}
	return s
}

func told(l []api.Row) string {
	s := fmt.Sprint(len(l), " rows")
	for i, r := range l {
		if i == 6 {
			return s + " .."
		}
		s += fmt.Sprintf(" (%q %d %d %q)", brief(r.Key), r.Seq, r.Kind, brief(r.Value))
	}
	return s
}

// built is the block that Build returns for rows and an interval that may be.
func built(t *testing.T, l []api.Row, restart int) string {
	t.Helper()
	s, e := block.Build(l, restart)
	if e != api.OK {
		t.Fatalf("Build of %s with %d: %v", told(l), restart, e)
	}
	return s
}

// isBuilt tests that Build returns what the chapter says, and that Rows reads that back; it tells whether it is a block.
func isBuilt(t *testing.T, l []api.Row, restart int) bool {
	t.Helper()
	want, wantE := slowBuild(l, restart)
	s, e := block.Build(l, restart)
	if s != want || e != wantE {
		t.Errorf("Build of %s with %d: %d bytes % x, %v, want %d bytes % x, %v", told(l), restart, len(s), brief(s), e, len(want), brief(want), wantE)
	}
	if wantE == api.OK {
		isRows(t, want, l)
	}
	return wantE == api.OK
}

// isNotBuilt tests that Build refuses its arguments, and returns nothing beside the error.
func isNotBuilt(t *testing.T, what string, l []api.Row, restart int, want api.Errno) {
	t.Helper()
	if s, e := block.Build(l, restart); s != "" || e != want {
		t.Errorf("Build of %s, %s with %d: %d bytes, %v, want none, %v", what, told(l), restart, len(s), e, want)
	}
}

// isRows tests that s is the block of these rows.
func isRows(t *testing.T, s string, want []api.Row) {
	t.Helper()
	if l, e := block.Rows(s); !slices.Equal(l, want) || e != api.OK {
		t.Errorf("Rows of %d bytes % x: %s, %v, want %s", len(s), brief(s), told(l), e, told(want))
	}
}

// isNone tests that s is no block.
func isNone(t *testing.T, what, s string) {
	t.Helper()
	if l, e := block.Rows(s); l != nil && len(l) != 0 || e != api.ErrForm {
		t.Errorf("%s: Rows of %d bytes % x: %s, %v, want ErrForm", what, len(s), brief(s), told(l), e)
	}
	for _, p := range []api.Row{{}, {Key: "a", Seq: 1}, {Key: "\xff\xff"}} {
		if l, e := block.Seek(s, p.Key, p.Seq); len(l) != 0 || e != api.ErrForm {
			t.Errorf("%s: Seek of %d bytes % x, %q, %d: %s, %v, want ErrForm", what, len(s), brief(s), p.Key, p.Seq, told(l), e)
		}
	}
	if _, e := slowRows(s); e != api.ErrForm {
		t.Errorf("%s: the test's own Rows of %d bytes % x: %v", what, len(s), brief(s), e)
	}
}

// isRead tests what Rows and Seek say of s, and that what they read is built as these bytes again; it tells whether s is a block.
func isRead(t *testing.T, s string, places ...api.Row) bool {
	t.Helper()
	want, wantE := slowRows(s)
	l, e := block.Rows(s)
	if !slices.Equal(l, want) || e != wantE {
		t.Errorf("Rows of %d bytes % x: %s, %v, want %s, %v", len(s), brief(s), told(l), e, told(want), wantE)
	}
	for _, p := range places {
		isSeek(t, s, p.Key, p.Seq)
	}
	if e == api.OK {
		if again, e := block.Build(l, int(s[len(s)-4])); again != s || e != api.OK {
			t.Errorf("Build of Rows of %d bytes % x: %d bytes % x, %v", len(s), brief(s), len(again), brief(again), e)
		}
	}
	return wantE == api.OK
}

// isSeek tests what Seek says of s for a place.
func isSeek(t *testing.T, s, key string, seq uint64) {
	t.Helper()
	want, wantE := slowSeek(s, key, seq)
	if l, e := block.Seek(s, key, seq); !slices.Equal(l, want) || e != wantE {
		t.Errorf("Seek of %d bytes % x, %q, %d: %s, %v, want %s, %v", len(s), brief(s), brief(key), seq, told(l), e, told(want), wantE)
	}
}

// about has the places at, next to and between rows.
func about(l []api.Row) []api.Row {
	p := []api.Row{{}, {Seq: 1<<64 - 1}, {Key: "\xff\xff", Seq: 1}, {Key: "m", Seq: 7}}
	for _, r := range l {
		p = append(p, r)
		for _, seq := range []uint64{0, r.Seq - 1, r.Seq + 1, 1 << 56, 1<<64 - 1} {
			p = append(p, api.Row{Key: r.Key, Seq: seq})
		}
		p = append(p, api.Row{Key: r.Key + "\x00", Seq: r.Seq}, api.Row{Key: r.Key[:len(r.Key)-1], Seq: r.Seq})
	}
	return p
}
