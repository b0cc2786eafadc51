package table_test

import (
	"cmp"
	"encoding/binary"
	"fmt"
	"hash/crc32"
	"math/rand/v2"
	"slices"
	"strings"
	"testing"

	"freshet/api"
	"freshet/block"
	"freshet/bloom"
	"freshet/table"
)

// compare tells the order of two places: by their keys and, from the greatest on, by their numbers.
func compare(a, b api.Row) int {
	return cmp.Or(cmp.Compare(a.Key, b.Key), cmp.Compare(b.Seq, a.Seq))
}

// isArg and isLong tell the causes why a row is not valid.
func isArg(r api.Row) bool {
	return r.Kind < 1 || r.Kind > 2 || len(r.Key) == 0 || r.Seq == 0 || r.Seq > 1<<56-1 || r.Kind == 2 && len(r.Value) > 0
}

func isLong(r api.Row) bool { return len(r.Key) > 520 || len(r.Value) > 2048 }

// short is the library's short number, field a string behind its length; eight and four are numbers of so many bytes.
func short(n uint64) string { return string(binary.AppendUvarint(nil, n)) }
func field(s string) string { return short(uint64(len(s))) + s }
func four(n uint32) string  { return string(binary.LittleEndian.AppendUint32(nil, n)) }
func eight(n uint64) string { return string(binary.LittleEndian.AppendUint64(nil, n)) }
func sumOf(s string) string {
	return four(crc32.Checksum([]byte(s), crc32.MakeTable(crc32.Castagnoli)))
}
func frameOf(p string) string { return field(p) + sumOf(field(p)) }

// footerOf is the footer with these offsets.
func footerOf(filter, index uint64) string {
	s := eight(filter) + eight(index)
	return s + sumOf(s)
}

// shared is how many leading bytes are the same.
func shared(a, b string) int {
	n := min(len(a), len(b))
	for a[:n] != b[:n] {
		n--
	}
	return n
}

// growing is a block to which row after row is added.
type growing struct {
	restart, many int
	previous      string
	rows, offsets string
}

func (g *growing) add(r api.Row) {
	n := shared(g.previous, r.Key)
	if g.many%g.restart == 0 {
		n = 0
		g.offsets += four(uint32(len(g.rows)))
	}
	g.rows += short(uint64(n)) + field(r.Key[n:]) + short(r.Seq) + string([]byte{byte(r.Kind)})
	if r.Kind == 1 {
		g.rows += field(r.Value)
	}
	g.previous = r.Key
	g.many++
}

func (g *growing) block() string {
	return g.rows + g.offsets + four(uint32(len(g.offsets)/4)) + four(uint32(g.restart))
}

// slowBlock is rows as a block.
func slowBlock(l []api.Row, restart int) string {
	g := growing{restart: restart}
	for _, r := range l {
		g.add(r)
	}
	return g.block()
}

// slowParts divides rows by adding one after another till the block is too long.
func slowParts(l []api.Row, o api.TableOptions) [][]api.Row {
	var parts [][]api.Row
	for len(l) > 0 {
		g := growing{restart: o.Restart}
		g.add(l[0])
		n := 1
		for n < len(l) && n < 1024 {
			if g.add(l[n]); len(g.block()) > o.Block {
				break
			}
			n++
		}
		parts, l = append(parts, l[:n]), l[n:]
	}
	return parts
}

// pieces are the parts of a table, all but the footer.
type pieces struct{ data, filter, index string }

// table has the pieces with the footer that belongs to them.
func (p pieces) table() string {
	return p.data + p.filter + p.index + footerOf(uint64(len(p.data)), uint64(len(p.data+p.filter)))
}

// saying is what the index says of a data block.
type saying struct {
	first string
	last  api.Row
	from  uint64
	rows  uint64
}

// row is the row of the index for it.
func (x saying) row() api.Row {
	return put(x.last.Key, x.last.Seq, field(x.first)+short(x.from)+short(x.rows))
}

// indexOf is the index that says so.
func indexOf(l ...saying) string {
	var rows []api.Row
	for _, x := range l {
		rows = append(rows, x.row())
	}
	return frameOf(slowBlock(rows, 1))
}

// dataOf is data blocks of these rows, and what the index says of them.
func dataOf(parts [][]api.Row, restart int) (data string, l []saying) {
	for _, rows := range parts {
		l = append(l, saying{rows[0].Key, rows[len(rows)-1], uint64(len(data)), uint64(len(rows))})
		data += frameOf(slowBlock(rows, restart))
	}
	return data, l
}

// keysOf is the keys of rows, each once.
func keysOf(l []api.Row) []string {
	var keys []string
	for _, r := range l {
		keys = append(keys, r.Key)
	}
	return slices.Compact(keys)
}

// filterOf is a filter of keys, of any length.
func filterOf(keys []string, bits int) string {
	f, e := bloom.Make(keys, bits)
	if e != api.OK {
		panic(e)
	}
	return f
}

// slowPieces is the pieces of the table of rows and options that may be, however long they are.
func slowPieces(l []api.Row, o api.TableOptions) pieces {
	data, says := dataOf(slowParts(l, o), o.Restart)
	return pieces{data, frameOf(filterOf(keysOf(l), o.Bits)), indexOf(says...)}
}

// slowBuild is what Build answers.
func slowBuild(l []api.Row, o api.TableOptions) (string, api.Errno) {
	if o.Block < 64 || o.Block > 16384 || o.Restart < 1 || o.Restart > 64 || o.Bits < 1 || o.Bits > 32 || slices.ContainsFunc(l, isArg) {
		return "", api.ErrArg
	}
	for i := 1; i < len(l); i++ {
		if compare(l[i-1], l[i]) >= 0 {
			return "", api.ErrArg
		}
	}
	if slices.ContainsFunc(l, isLong) {
		return "", api.ErrLong
	}
	p := slowPieces(l, o)
	_, filter, _ := slowFrame(p.filter)
	_, index, _ := slowFrame(p.index)
	if len(filter) > 65536 || len(index) > 65536 || len(slowParts(l, o)) > 1024 || len(p.table()) > 1<<18 {
		return "", api.ErrLong
	}
	return p.table(), api.OK
}

// cut takes bytes off a string; after a step that failed, it stays at the end.
type cut struct {
	s      string
	failed bool
}

func (c *cut) take(n uint64) string {
	if n > uint64(len(c.s)) {
		c.s, c.failed = "", true
		return ""
	}
	t := c.s[:n]
	c.s = c.s[n:]
	return t
}

func (c *cut) short() uint64 {
	n, size := binary.Uvarint([]byte(c.s[:min(len(c.s), 10)]))
	if size <= 0 || short(n) != c.s[:size] {
		c.s, c.failed = "", true
		return 0
	}
	c.take(uint64(size))
	return n
}

// slowFrame reads the frame that s is, whatever its length; size is how many bytes the length has.
func slowFrame(s string) (size int, p string, ok bool) {
	c := cut{s: s}
	n := c.short()
	size = len(s) - len(c.s)
	p = c.take(n)
	if c.failed || len(c.s) != 4 {
		return 0, "", false
	}
	return size, p, c.s == sumOf(s[:len(s)-4])
}

// isFrame tells whether s is exactly one frame, and of what.
func isFrame(s string) (p string, ok bool) {
	_, p, ok = slowFrame(s)
	return p, ok && len(p) <= 65536
}

// slowTable is a table that was read by the chapter's rules.
type slowTable struct {
	s, filter string
	end       uint64
	says      []saying
}

// slowOpen works out what Open answers, rule by rule.
func slowOpen(s string) (*slowTable, bool) {
	if len(s) < 20 || len(s) > 262144 || sumOf(s[len(s)-20:len(s)-4]) != s[len(s)-4:] {
		return nil, false
	}
	end := uint64(len(s) - 20)
	filter, index := binary.LittleEndian.Uint64([]byte(s[end:end+8])), binary.LittleEndian.Uint64([]byte(s[end+8:end+16]))
	if filter > index || index > end {
		return nil, false
	}
	f, ok := isFrame(s[filter:index])
	if !ok || bloom.Check(f) != api.OK {
		return nil, false
	}
	x, ok := isFrame(s[index:end])
	if !ok {
		return nil, false
	}
	rows, e := block.Rows(x)
	if e != api.OK {
		return nil, false
	}
	t := slowTable{s: s, filter: f, end: filter}
	for i, r := range rows {
		c := cut{s: r.Value}
		n := c.short()
		says := saying{first: c.take(n), last: r, from: c.short(), rows: c.short()}
		if r.Kind != 1 || c.failed || c.s != "" || n > 520 || says.rows < 1 || says.rows > 1024 || says.from > filter {
			return nil, false
		}
		if i == 0 && says.from != 0 || i > 0 && says.from <= t.says[i-1].from {
			return nil, false
		}
		t.says = append(t.says, says)
	}
	return &t, len(rows) > 0 || filter == 0
}

// read works out the rows of a data block, if it can be read.
func (t *slowTable) read(i int) ([]api.Row, bool) {
	upto := t.end
	if i+1 < len(t.says) {
		upto = t.says[i+1].from
	}
	p, ok := isFrame(t.s[t.says[i].from:upto])
	if !ok {
		return nil, false
	}
	rows, e := block.Rows(p)
	if n := len(rows); e != api.OK || uint64(n) != t.says[i].rows || rows[0].Key != t.says[i].first || compare(rows[n-1], t.says[i].last) != 0 {
		return nil, false
	}
	return rows, true
}

// get is what Get answers.
func (t *slowTable) get(key string, at uint64) (api.Row, bool, api.Errno) {
	place := api.Row{Key: key, Seq: at}
	if bloom.Has(t.filter, key) {
		for i, says := range t.says {
			if compare(says.last, place) >= 0 {
				rows, ok := t.read(i)
				if !ok {
					return api.Row{}, false, api.ErrCorrupt
				}
				for _, r := range rows {
					if compare(r, place) >= 0 && r.Key == key {
						return r, true, api.OK
					} else if compare(r, place) >= 0 {
						return api.Row{}, false, api.OK
					}
				}
			}
		}
	}
	return api.Row{}, false, api.OK
}

// scan is what Scan answers.
func (t *slowTable) scan(from, to string) ([]api.Row, api.Errno) {
	var l []api.Row
	for i, says := range t.says {
		if says.last.Key < from {
			continue
		}
		if to != "" && says.first >= to {
			break
		}
		rows, ok := t.read(i)
		if !ok {
			return nil, api.ErrCorrupt
		}
		for _, r := range rows {
			if r.Key >= from && (to == "" || r.Key < to) {
				l = append(l, r)
			}
		}
	}
	return l, api.OK
}

// many is how many rows there are by the index.
func (t *slowTable) many() int {
	n := 0
	for _, says := range t.says {
		n += int(says.rows)
	}
	return n
}

// ends is the first and the last key.
func (t *slowTable) ends() (first, last string) {
	if len(t.says) == 0 {
		return "", ""
	}
	return t.says[0].first, t.says[len(t.says)-1].last.Key
}

// version is what rows have for a key at a number: of those with the key and at most that number, the one with the greatest.
func version(l []api.Row, key string, at uint64) (best api.Row, ok bool) {
	for _, r := range l {
		if r.Key == key && r.Seq <= at && (!ok || r.Seq > best.Seq) {
			best, ok = r, true
		}
	}
	return best, ok
}

// source returns numbers that look random and are the same in each run.
func source(seed uint64) *rand.Rand { return rand.New(rand.NewPCG(seed, 12)) }

// some returns n bytes.
func some(r *rand.Rand, n int) string {
	b := make([]byte, n)
	for i := range b {
		b[i] = byte(r.Uint32())
	}
	return string(b)
}

// put and del are rows, opts are options.
func put(key string, seq uint64, value string) api.Row {
	return api.Row{Key: key, Seq: seq, Kind: 1, Value: value}
}
func del(key string, seq uint64) api.Row { return api.Row{Key: key, Seq: seq, Kind: 2} }
func opts(block, restart, bits int) api.TableOptions {
	return api.TableOptions{Block: block, Restart: restart, Bits: bits}
}

// fill returns n bytes that are all c.
func fill(n int, c byte) string { return strings.Repeat(string([]byte{c}), n) }

// inOrder returns the rows in order, of each place the first one.
func inOrder(l []api.Row) []api.Row {
	l = slices.Clone(l)
	slices.SortStableFunc(l, compare)
	return slices.CompactFunc(l, func(a, b api.Row) bool { return compare(a, b) == 0 })
}

// someRow returns a valid row whose key is like others.
func someRow(r *rand.Rand) api.Row {
	var key string
	switch r.IntN(6) {
	case 0:
		key = some(r, 1+r.IntN(2))
	case 1:
		key = "user-" + string(rune('a'+r.IntN(4))) + "/" + some(r, r.IntN(2))
	case 2:
		key = strings.Repeat("k", 1+r.IntN(80))
	case 3:
		key = strings.Repeat("\x00", r.IntN(4)) + string(rune('a'+r.IntN(2)))
	default:
		key = string(rune('a' + r.IntN(3)))
	}
	row := put(key, 1+r.Uint64N(1<<(1+r.IntN(56))-1), "")
	switch r.IntN(6) {
	case 0:
		row.Kind = 2
	case 1:
		row.Value = some(r, r.IntN(200))
	default:
		row.Value = some(r, r.IntN(10))
	}
	return row
}

// someRows returns at most n valid rows that are in order.
func someRows(r *rand.Rand, n int) []api.Row {
	var l []api.Row
	for range n {
		l = append(l, someRow(r))
	}
	return inOrder(l)
}

// someOptions returns options that may be, of which the small ones come often.
func someOptions(r *rand.Rand) api.TableOptions {
	o := opts(64+r.IntN(16321), 1+r.IntN(64), 1+r.IntN(32))
	if r.IntN(4) > 0 {
		o.Block = 64 + r.IntN(200)
	}
	if r.IntN(2) == 0 {
		o.Restart = 1 + r.IntN(5)
	}
	return o
}

// manyRows returns n short rows that are in order.
func manyRows(n int) []api.Row {
	l := make([]api.Row, n)
	for i := range l {
		l[i] = put(string([]byte{'k', byte(i >> 16), byte(i >> 8), byte(i)}), uint64(1+i%7), "v")
	}
	return l
}

// brief keeps a long string out of a test's words, and told many rows.
func brief(s string) string {
	if len(s) > 60 {
		return s[:60] + ".."
	}
	return s
}

func told(l []api.Row) string {
	s := fmt.Sprint(len(l), " rows")
	for i, r := range l {
		if i == 6 {
			return s + " .."
		}
		s += fmt.Sprintf(" (%q %d %d %q)", brief(r.Key), r.Seq, r.Kind, brief(r.Value))
	}
	return s
}

// isBuilt tests that Build returns what the chapter says; it tells whether that is a table.
func isBuilt(t *testing.T, l []api.Row, o api.TableOptions) bool {
	t.Helper()
	want, wantE := slowBuild(l, o)
	s, e := table.Build(l, o)
	if s != want || e != wantE {
		t.Errorf("Build of %s with %v: %d bytes % x, %v, want %d bytes % x, %v", told(l), o, len(s), brief(s), e, len(want), brief(want), wantE)
	}
	return wantE == api.OK
}

// isNotBuilt tests that Build refuses its arguments, and returns nothing beside the error.
func isNotBuilt(t *testing.T, what string, l []api.Row, o api.TableOptions, want api.Errno) {
	t.Helper()
	if s, e := table.Build(l, o); s != "" || e != want {
		t.Errorf("Build of %s, %s with %v: %d bytes, %v, want none, %v", what, told(l), o, len(s), e, want)
	}
}

// built is the table that Build returns for rows and options that may be.
func built(t *testing.T, l []api.Row, o api.TableOptions) string {
	t.Helper()
	s, e := table.Build(l, o)
	if e != api.OK {
		t.Fatalf("Build of %s with %v: %v", told(l), o, e)
	}
	return s
}

// opened is the table that Open returns for bytes that are one.
func opened(t *testing.T, s string) *table.Table {
	t.Helper()
	x, e := table.Open(s)
	if x == nil || e != api.OK {
		t.Fatalf("Open of %d bytes % x: %v", len(s), brief(s), e)
	}
	return x
}

// isCorrupt tests that Open refuses s.
func isCorrupt(t *testing.T, what, s string) {
	t.Helper()
	if x, e := table.Open(s); x != nil || e != api.ErrCorrupt {
		t.Errorf("%s: Open of %d bytes % x: %v, %v, want ErrCorrupt", what, len(s), brief(s), x != nil, e)
	}
	if _, ok := slowOpen(s); ok {
		t.Errorf("%s: the test's own Open of %d bytes % x accepts it", what, len(s), brief(s))
	}
}

// isOpened tests that s is a table, which answers as the chapter says.
func isOpened(t *testing.T, what, s string, places ...api.Row) {
	t.Helper()
	if _, ok := slowOpen(s); !ok {
		t.Errorf("%s: the test's own Open of %d bytes % x refuses it", what, len(s), brief(s))
	}
	isHeld(t, what, s, places...)
}

// isHeld tests what Open says of s, and what each method of that table does for these places and the keys from each to the next one; it tells whether it is a table.
func isHeld(t *testing.T, what, s string, places ...api.Row) bool {
	t.Helper()
	want, ok := slowOpen(s)
	if !ok {
		isCorrupt(t, what, s)
		return false
	}
	x, e := table.Open(s)
	if x == nil || e != api.OK {
		t.Errorf("%s: Open of %d bytes % x: %v", what, len(s), brief(s), e)
		return true
	}
	first, last := want.ends()
	if x.Len() != want.many() || x.First() != first || x.Last() != last {
		t.Errorf("%s: Len %d, First %q, Last %q, want %d, %q, %q", what, x.Len(), brief(x.First()), brief(x.Last()), want.many(), brief(first), brief(last))
	}
	isScan(t, what, x, want, "", "")
	from := ""
	for _, p := range places {
		if got := x.May(p.Key); got != bloom.Has(want.filter, p.Key) {
			t.Errorf("%s: May of %q: %v", what, brief(p.Key), got)
		}
		isGet(t, what, x, want, p.Key, p.Seq)
		isScan(t, what, x, want, from, p.Key)
		isScan(t, what, x, want, p.Key, from)
		isScan(t, what, x, want, p.Key, "")
		from = p.Key
	}
	return true
}

// isGet tests what Get says for a place.
func isGet(t *testing.T, what string, x *table.Table, want *slowTable, key string, at uint64) {
	t.Helper()
	wantR, wantOk, wantE := want.get(key, at)
	if r, ok, e := x.Get(key, at); r != wantR || ok != wantOk || e != wantE {
		t.Errorf("%s: Get of %q, %d: %s, %v, %v, want %s, %v, %v", what, brief(key), at, told([]api.Row{r}), ok, e, told([]api.Row{wantR}), wantOk, wantE)
	}
}

// isScan tests what Scan says for keys.
func isScan(t *testing.T, what string, x *table.Table, want *slowTable, from, to string) {
	t.Helper()
	wantL, wantE := want.scan(from, to)
	if l, e := x.Scan(from, to); !slices.Equal(l, wantL) || e != wantE {
		t.Errorf("%s: Scan from %q to %q: %s, %v, want %s, %v", what, brief(from), brief(to), told(l), e, told(wantL), wantE)
	}
}

// about has the places at, next to and between rows.
func about(l []api.Row) []api.Row {
	p := []api.Row{{}, {Seq: 1<<64 - 1}, {Key: "\xff\xff", Seq: 1}, {Key: "m", Seq: 7}}
	for _, r := range l {
		p = append(p, r)
		for _, seq := range []uint64{0, r.Seq - 1, r.Seq + 1, 1 << 56, 1<<64 - 1} {
			p = append(p, api.Row{Key: r.Key, Seq: seq})
		}
		p = append(p, api.Row{Key: r.Key + "\x00", Seq: r.Seq}, api.Row{Key: r.Key[:len(r.Key)-1], Seq: r.Seq})
	}
	return p
}

// fewAbout has at most n of those places.
func fewAbout(random *rand.Rand, l []api.Row, n int) []api.Row {
	p := about(l)
	random.Shuffle(len(p), func(i, j int) { p[i], p[j] = p[j], p[i] })
	return p[:min(len(p), n)]
}
