package table_test

import (
	"fmt"
	"math/rand/v2"
	"slices"
	"strings"
	"testing"

	"freshet/api"
	"freshet/table"
)

// P12.1 to P12.6: random rows, held against what the chapter says of their table.
func TestHeldAgainstSlow(t *testing.T) {
	for seed := range uint64(400) {
		random := source(seed)
		l, o := someRows(random, random.IntN(60)), someOptions(random)
		if !isBuilt(t, l, o) {
			t.Errorf("seed %d: %s with %v are refused", seed, told(l), o)
			continue
		}
		s := built(t, l, o)
		isOpened(t, fmt.Sprint("seed ", seed), s, fewAbout(random, l, 30)...)
	}
}

// P12.1: random rows in any order, some of which are not valid, with options of which some may not be.
func TestAnyRows(t *testing.T) {
	refused := map[api.Errno]int{}
	for seed := range uint64(3000) {
		random := source(seed)
		l, o := someRows(random, random.IntN(8)), someOptions(random)
		for range random.IntN(3) {
			if len(l) > 0 {
				spoil(random, l)
			}
		}
		switch random.IntN(30) {
		case 0:
			o.Block += random.IntN(40000) - 20000
		case 1:
			o.Restart += random.IntN(130) - 65
		case 2:
			o.Bits += random.IntN(70) - 35
		}
		isBuilt(t, l, o)
		_, e := slowBuild(l, o)
		refused[e]++
	}
	if refused[api.OK] < 500 || refused[api.ErrArg] < 300 || refused[api.ErrLong] < 50 {
		t.Errorf("they were refused as %v", refused)
	}
}

// spoil changes one of the rows, or where one stands.
func spoil(random *rand.Rand, l []api.Row) {
	r := &l[random.IntN(len(l))]
	switch random.IntN(9) {
	case 0:
		r.Kind = random.IntN(5) - 1
	case 1:
		r.Seq = 0
	case 2:
		r.Seq = 1<<56 - 1 + random.Uint64N(3)
	case 3:
		r.Key = ""
	case 4:
		r.Key += fill(random.IntN(900), 'k')
	case 5:
		r.Value += fill(random.IntN(4000), 'v')
	case 6:
		*r = l[random.IntN(len(l))]
	default:
		random.Shuffle(len(l), func(i, j int) { l[i], l[j] = l[j], l[i] })
	}
}

// P12.1, P12.6: all lists of these rows that are in order, with some options, and all of these places.
func TestAllShortLists(t *testing.T) {
	rows := []api.Row{put("a", 3, ""), del("a", 2), put("a", 1, fill(40, 'x')), put("aa", 2, fill(70, 'y')), put("ab", 1, "y"), del("ab\x00", 1), put("b", 200, "z"), put("b", 1, fill(20, 'z'))}
	for some := range 1 << len(rows) {
		var l []api.Row
		for i, r := range rows {
			if some>>i&1 == 1 {
				l = append(l, r)
			}
		}
		for _, o := range []api.TableOptions{usual, opts(64, 1, 1), opts(70, 2, 32), opts(100, 3, 5), opts(16384, 64, 10)} {
			if isBuilt(t, l, o) {
				isOpened(t, told(l), built(t, l, o), rows[some%len(rows)], api.Row{Key: "a\x00", Seq: 1})
			}
		}
	}
}

// P12.6: what was built is read again: all rows, the version of each place, the ends and the number.
func TestRoundTrip(t *testing.T) {
	for seed := range uint64(150) {
		random := source(seed)
		l, o := someRows(random, random.IntN(150)), someOptions(random)
		x := opened(t, built(t, l, o))
		if rows, e := x.Scan("", ""); !slices.Equal(rows, l) || e != api.OK {
			t.Errorf("seed %d: Scan of %s: %s, %v", seed, told(l), told(rows), e)
		}
		for _, r := range l {
			if got, ok, e := x.Get(r.Key, r.Seq); got != r || !ok || e != api.OK {
				t.Errorf("seed %d: Get of %s: %s, %v, %v", seed, told([]api.Row{r}), told([]api.Row{got}), ok, e)
			}
			if !x.May(r.Key) {
				t.Errorf("seed %d: May of %q is false", seed, brief(r.Key))
			}
		}
		for _, p := range fewAbout(random, l, 200) {
			want, wantOk := version(l, p.Key, p.Seq)
			if got, ok, e := x.Get(p.Key, p.Seq); got != want || ok != wantOk || e != api.OK {
				t.Errorf("seed %d: Get of %q, %d: %s, %v, %v", seed, brief(p.Key), p.Seq, told([]api.Row{got}), ok, e)
			}
		}
		first, last := "", ""
		if len(l) > 0 {
			first, last = l[0].Key, l[len(l)-1].Key
		}
		if x.Len() != len(l) || x.First() != first || x.Last() != last {
			t.Errorf("seed %d: Len %d, First %q, Last %q of %s", seed, x.Len(), brief(x.First()), brief(x.Last()), told(l))
		}
	}
}

// frames has where the frames of a table start behind their lengths, and where they end; the footer is the last one.
func frames(t *testing.T, s string) [][2]int {
	x, ok := slowOpen(s)
	if !ok {
		t.Fatal("no table")
	}
	var starts []int
	for _, says := range x.says {
		starts = append(starts, int(says.from))
	}
	c := cut{s: s[x.end:]}
	filter := c.short() + 4
	filter += uint64(len(s)) - x.end - uint64(len(c.s))
	starts = append(starts, int(x.end), int(x.end+filter), len(s)-20)
	var l [][2]int
	for i, from := range starts[:len(starts)-1] {
		size, _, ok := slowFrame(s[from:starts[i+1]])
		if !ok {
			t.Fatal("no frame")
		}
		l = append(l, [2]int{from + size, starts[i+1]})
	}
	return append(l, [2]int{len(s) - 20, len(s)})
}

// isDamage tests what the chapter says of a table in which some bits are inverted within 32.
func isDamage(t *testing.T, what, s string, before *table.Table, places []api.Row) {
	t.Helper()
	x, e := table.Open(s)
	if e == api.ErrCorrupt && x == nil {
		return
	}
	if _, scan := x.Scan("", ""); e != api.OK || scan != api.ErrCorrupt {
		t.Errorf("%s: Open %v, Scan %v", what, e, scan)
		return
	}
	for _, p := range places {
		want, wantOk, _ := before.Get(p.Key, p.Seq)
		if r, ok, e := x.Get(p.Key, p.Seq); e != api.ErrCorrupt && (r != want || ok != wantOk || e != api.OK) {
			t.Errorf("%s: Get of %q, %d: %s, %v, %v, want %s, %v", what, brief(p.Key), p.Seq, told([]api.Row{r}), ok, e, told([]api.Row{want}), wantOk)
		}
	}
}

// inverted is s with the bits of a mask inverted, from a bit on.
func inverted(s string, bit int, mask uint32) string {
	b := []byte(s)
	for i := range 32 {
		if mask>>i&1 == 1 {
			b[(bit+i)/8] ^= 1 << ((bit + i) % 8)
		}
	}
	return string(b)
}

// P12.7: every bit of short tables is found to be inverted, and every 32 bits in which the first or the last one is.
func TestEveryBit(t *testing.T) {
	for _, l := range [][]api.Row{nil, one, mixed} {
		s := built(t, l, usual)
		before, places := opened(t, s), about(l)
		for _, f := range frames(t, s) {
			for bit := 8 * f[0]; bit < 8*f[1]; bit++ {
				for _, mask := range []uint32{1, 3, 0xffffffff, 0x80000001, 0x10000001, 0xdeadbeef} {
					for mask > 0 && bit+32 > 8*f[1] && mask>>(8*f[1]-bit) > 0 {
						mask &^= 1 << 31 >> leading(mask)
					}
					isDamage(t, fmt.Sprintf("%x from bit %d on", mask, bit), inverted(s, bit, mask), before, places)
				}
			}
		}
	}
}

// leading is how many bits stand ahead of the highest one that is set.
func leading(mask uint32) int {
	n := 0
	for mask>>(31-n) == 0 {
		n++
	}
	return n
}

// P12.7: random tables with inverted bits within 32, somewhere in a frame or in the footer.
func TestBursts(t *testing.T) {
	refused := 0
	for seed := range uint64(300) {
		random := source(seed)
		l, o := someRows(random, random.IntN(50)), someOptions(random)
		s := built(t, l, o)
		before, all := opened(t, s), frames(t, s)
		for range 8 {
			f := all[random.IntN(len(all))]
			bit := 8*f[0] + random.IntN(8*(f[1]-f[0])-31)
			mask := random.Uint32()
			if random.IntN(3) == 0 {
				mask &= random.Uint32() & random.Uint32() & random.Uint32()
			}
			damaged := inverted(s, bit, mask|1<<random.IntN(32))
			if isDamage(t, fmt.Sprintf("seed %d, from bit %d on", seed, bit), damaged, before, fewAbout(random, l, 40)); !isHeld(t, "a burst", damaged, fewAbout(random, l, 3)...) {
				refused++
			}
		}
	}
	if refused < 500 {
		t.Errorf("only %d were refused by Open", refused)
	}
}

// P12.2 to P12.5: tables in which some bytes are others, or a piece is out or in, in a frame that is mended or not.
func TestDamagedTables(t *testing.T) {
	tables := 0
	for seed := range uint64(3000) {
		random := source(seed)
		l, o := someRows(random, random.IntN(20)), someOptions(random)
		s := damaged(random, built(t, l, o))
		if isHeld(t, fmt.Sprint("seed ", seed), s, fewAbout(random, l, 3)...) {
			tables++
		}
		p := slowPieces(l, o)
		index, _ := isFrame(p.index)
		filter, _ := isFrame(p.filter)
		switch random.IntN(3) {
		case 0:
			p.data = damaged(random, p.data)
		case 1:
			p.filter = frameOf(damaged(random, filter))
		default:
			p.index = frameOf(damaged(random, index))
		}
		if isHeld(t, fmt.Sprint("seed ", seed, ", mended"), p.table(), fewAbout(random, l, 3)...) {
			tables++
		}
	}
	if tables < 1000 {
		t.Errorf("only %d of them were tables", tables)
	}
}

// damaged has s with one change somewhere.
func damaged(random *rand.Rand, s string) string {
	i := random.IntN(len(s) + 1)
	switch n := min(random.IntN(4), len(s)-i); random.IntN(5) {
	case 0:
		return s[:i] + s[i+n:]
	case 1:
		return s[:i] + some(random, n) + s[i:]
	case 2:
		return s[:i] + some(random, n) + s[i+n:]
	case 3:
		return s[:i] + s[i:i+n] + s[i:]
	default:
		b := []byte(s + "\x00")
		b[i] ^= 1 << random.IntN(8)
		return string(b[:len(s)])
	}
}

// P12.2 to P12.5: tables whose index says otherwise than the data blocks, in something.
func TestIndexSaysOtherwise(t *testing.T) {
	tables := 0
	for seed := range uint64(3000) {
		random := source(seed)
		l := someRows(random, 1+random.IntN(30))
		p := slowPieces(l, usual)
		_, says := dataOf(slowParts(l, usual), usual.Restart)
		if random.IntN(2) == 0 {
			p.filter = frameOf("\x01" + fill(8, 255))
		}
		for range 1 + random.IntN(2) {
			says = otherwise(random, l, says)
		}
		says = slices.Compact(says)
		p.index = indexOf(says...)
		places := []api.Row{l[random.IntN(len(l))]}
		for _, x := range says {
			places = append(places, x.last, api.Row{Key: x.first, Seq: 1 << 56}, api.Row{Key: x.last.Key, Seq: x.last.Seq - 1})
		}
		if isHeld(t, fmt.Sprint("seed ", seed), p.table(), places...) {
			tables++
		}
	}
	if tables < 1000 {
		t.Errorf("only %d of them were tables", tables)
	}
}

// otherwise changes one thing that the index says.
func otherwise(random *rand.Rand, l []api.Row, says []saying) []saying {
	if len(says) == 0 {
		return says
	}
	i := random.IntN(len(says))
	x := &says[i]
	switch random.IntN(8) {
	case 0:
		x.first = l[random.IntN(len(l))].Key
	case 1:
		x.first += "\x00"
	case 2:
		x.last.Seq += random.Uint64N(3)
	case 3:
		x.last.Key += "\x00"
	case 4:
		x.from += random.Uint64N(3) - 1
	case 5:
		x.rows += random.Uint64N(3) - 1
	case 6:
		return slices.Delete(says, i, i+1)
	default:
		x.from = says[random.IntN(len(says))].from
	}
	return says
}

// P12.2: random bytes, with a footer that belongs to them.
func TestRandomBytes(t *testing.T) {
	random := source(1)
	for range 3000 {
		a, b, c := some(random, random.IntN(4)), some(random, random.IntN(20)), some(random, random.IntN(20))
		isHeld(t, "random bytes", a+b+c, api.Row{Key: "a", Seq: 1})
		isHeld(t, "random pieces", pieces{a, b, c}.table(), api.Row{Key: "a", Seq: 1})
		isHeld(t, "random frames", pieces{"", frameOf(b), frameOf(c + four(0) + four(1))}.table(), api.Row{Key: "a", Seq: 1})
		isHeld(t, "random data", pieces{a, frameOf("\x01" + b), frameOf(four(0) + four(1))}.table(), api.Row{Key: "a", Seq: 1})
	}
}

// P12.8: Get and Scan answer the same whatever the options are.
func TestOptionsChangeNothing(t *testing.T) {
	for seed := range uint64(40) {
		random := source(seed)
		l := someRows(random, random.IntN(120))
		var tables []*table.Table
		for range 6 {
			tables = append(tables, opened(t, built(t, l, someOptions(random))))
		}
		tables = append(tables, opened(t, built(t, l, opts(64, 1, 1))), opened(t, built(t, l, opts(16384, 64, 32))))
		places := fewAbout(random, l, 60)
		for i, p := range places {
			from, to := p.Key, places[(i+1)%len(places)].Key
			want, wantOk, wantE := tables[0].Get(p.Key, p.Seq)
			wantL, wantLE := tables[0].Scan(from, to)
			for _, x := range tables[1:] {
				if r, ok, e := x.Get(p.Key, p.Seq); r != want || ok != wantOk || e != wantE {
					t.Errorf("seed %d: Get of %q, %d: %v and %v", seed, brief(p.Key), p.Seq, ok, wantOk)
				}
				if l, e := x.Scan(from, to); !slices.Equal(l, wantL) || e != wantLE {
					t.Errorf("seed %d: Scan from %q to %q: %s and %s", seed, brief(from), brief(to), told(l), told(wantL))
				}
			}
		}
	}
}

// P12.8: the rows up to a key and those from it on are all rows between.
func TestPartsOfScan(t *testing.T) {
	for seed := range uint64(60) {
		random := source(seed)
		l := someRows(random, random.IntN(120))
		x := opened(t, built(t, l, someOptions(random)))
		keys := []string{"a", "b", "k", "\xff\xff"}
		for _, p := range fewAbout(random, l, 60) {
			keys = append(keys, p.Key)
		}
		for range 60 {
			three := []string{keys[random.IntN(len(keys))], keys[random.IntN(len(keys))], keys[random.IntN(len(keys))]}
			slices.Sort(three)
			from, cut, to := three[0], three[1], three[2]
			if random.IntN(3) == 0 {
				to = ""
			}
			if cut == "" {
				continue
			}
			left, _ := x.Scan(from, cut)
			right, _ := x.Scan(cut, to)
			whole, e := x.Scan(from, to)
			if !slices.Equal(append(left, right...), whole) || e != api.OK {
				t.Errorf("seed %d: from %q to %q, cut at %q: %s, %v", seed, brief(from), brief(to), brief(cut), told(whole), e)
			}
			for _, r := range whole {
				if r.Key < from || to != "" && r.Key >= to {
					t.Errorf("seed %d: from %q to %q: %s", seed, brief(from), brief(to), told([]api.Row{r}))
				}
			}
		}
	}
}

// P12.8: Get is the first row of the key in Scan(empty, empty) whose Seq is at most the number.
func TestGetIsFirstOfScan(t *testing.T) {
	for seed := range uint64(60) {
		random := source(seed)
		l := someRows(random, random.IntN(120))
		x := opened(t, built(t, l, someOptions(random)))
		all, _ := x.Scan("", "")
		for _, p := range fewAbout(random, l, 100) {
			i := slices.IndexFunc(all, func(r api.Row) bool { return r.Key == p.Key && r.Seq <= p.Seq })
			r, ok, e := x.Get(p.Key, p.Seq)
			if ok != (i >= 0) || e != api.OK || ok && r != all[i] {
				t.Errorf("seed %d: Get of %q, %d: %s, %v, %v, row %d of all", seed, brief(p.Key), p.Seq, told([]api.Row{r}), ok, e, i)
			}
		}
	}
}

// P12.8, P12.4: every cut of a table with many data blocks, at every key and beside it.
func TestEveryCut(t *testing.T) {
	l := inOrder([]api.Row{put("a", 1, ""), put("a\x00", 1, ""), put("b", 5, fill(70, 'v')), put("b", 4, fill(70, 'v')), put("b", 3, ""), put("bb", 1, ""), put("c", 1, fill(40, 'v')), put("ca", 1, ""), put("d", 9, ""), del("d", 8), put("e", 1, strings.Repeat("long", 500)), put("f", 1, "")})
	var keys []string
	for _, key := range keysOf(l) {
		keys = append(keys, key[:len(key)-1], key, key+"\x00", key+"\xff")
	}
	for _, o := range []api.TableOptions{usual, opts(64, 1, 1), opts(90, 2, 32), opts(16384, 64, 10)} {
		x := opened(t, built(t, l, o))
		for _, from := range keys {
			for _, to := range append(keys, "") {
				want := slices.DeleteFunc(slices.Clone(l), func(r api.Row) bool { return r.Key < from || to != "" && r.Key >= to })
				if got, e := x.Scan(from, to); !slices.Equal(got, want) || e != api.OK {
					t.Errorf("%v: Scan from %q to %q: %s, %v, want %s", o, from, to, told(got), e, told(want))
				}
			}
		}
	}
}
