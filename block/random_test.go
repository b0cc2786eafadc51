package block_test

import (
	"math/rand/v2"
	"slices"
	"strings"
	"testing"

	"freshet/api"
	"freshet/block"
)

// P11.1 to P11.5: random rows, held against what the chapter says of their block.
func TestHeldAgainstSlow(t *testing.T) {
	for seed := range uint64(500) {
		random := source(seed)
		l := someRows(random, random.IntN(60))
		restart := 1 + random.IntN(64)
		if random.IntN(2) == 0 {
			restart = 1 + random.IntN(8)
		}
		if isBuilt(t, l, restart) {
			places := about(l)
			random.Shuffle(len(places), func(i, j int) { places[i], places[j] = places[j], places[i] })
			isRead(t, slowBlock(l, restart), places[:min(len(places), 20)]...)
		}
		if !block.Order(l) || !slowOrder(l) {
			t.Errorf("seed %d: %s are not in order", seed, told(l))
		}
	}
}

// P11.1, P11.2: random rows in any order, some of which are not valid.
func TestAnyRows(t *testing.T) {
	refused := 0
	for seed := range uint64(3000) {
		random := source(seed)
		l := someRows(random, random.IntN(6))
		for range random.IntN(3) {
			if len(l) > 0 {
				spoil(random, l)
			}
		}
		if got, want := block.Order(l), slowOrder(l); got != want {
			t.Errorf("seed %d: Order of %s: %v", seed, told(l), got)
		}
		for _, r := range l {
			if got, want := block.Check(r), slowCheck(r); got != want {
				t.Errorf("seed %d: Check of %s: %v, want %v", seed, told([]api.Row{r}), got, want)
			}
		}
		if !isBuilt(t, l, 1+random.IntN(5)) {
			refused++
		}
	}
	if refused < 500 {
		t.Errorf("only %d were refused", refused)
	}
}

// spoil changes one of the rows, or where one stands.
func spoil(random *rand.Rand, l []api.Row) {
	r := &l[random.IntN(len(l))]
	switch random.IntN(9) {
	case 0:
		r.Kind = random.IntN(5) - 1
	case 1:
		r.Seq = 0
	case 2:
		r.Seq = 1<<56 - 1 + random.Uint64N(3)
	case 3:
		r.Key = ""
	case 4:
		r.Key += fill(random.IntN(600), 'k')
	case 5:
		r.Value += fill(random.IntN(3000), 'v')
	case 6:
		*r = l[random.IntN(len(l))]
	default:
		random.Shuffle(len(l), func(i, j int) { l[i], l[j] = l[j], l[i] })
	}
}

// P11.3, P11.4: random bytes, with and without an end as blocks have it.
func TestRandomBytes(t *testing.T) {
	random := source(1)
	for range 5000 {
		s := some(random, random.IntN(40))
		isRead(t, s, api.Row{Key: "a", Seq: 1})
		isRead(t, s+four(0)+four(1)+four(1+random.IntN(64)), api.Row{Key: "a", Seq: 1})
		isRead(t, s+four(random.IntN(3))+four(random.IntN(66)), api.Row{})
	}
}

// P11.3, P11.4: blocks in which a few bits, or bytes, are others, or a piece is out or in.
func TestDamagedBlocks(t *testing.T) {
	blocks := 0
	for seed := range uint64(6000) {
		random := source(seed)
		s := slowBlock(someRows(random, random.IntN(12)), 1+random.IntN(5))
		for range 1 + random.IntN(2) {
			s = damaged(random, s)
		}
		if isRead(t, s, api.Row{Key: "k", Seq: 1 << 20}) {
			blocks++
		}
	}
	if blocks < 500 {
		t.Errorf("only %d of them were blocks", blocks)
	}
}

// damaged has s with one change somewhere.
func damaged(random *rand.Rand, s string) string {
	i := random.IntN(len(s) + 1)
	switch n := min(random.IntN(4), len(s)-i); random.IntN(5) {
	case 0:
		return s[:i] + s[i+n:]
	case 1:
		return s[:i] + some(random, n) + s[i:]
	case 2:
		return s[:i] + some(random, n) + s[i+n:]
	case 3:
		return s[:i] + s[i:i+n] + s[i:]
	default:
		b := []byte(s + "\x00")
		b[i] ^= 1 << random.IntN(8)
		return string(b[:len(s)])
	}
}

// P11.3, P11.4: rows of which one is encoded otherwise than the chapter says, with the offsets that belong to these bytes.
func TestRowsEncodedOtherwise(t *testing.T) {
	for seed := range uint64(4000) {
		random := source(seed)
		l := someRows(random, 1+random.IntN(10))
		restart, odd := 1+random.IntN(4), random.IntN(len(l))
		change := random.IntN(7)
		var rows, offsets string
		previous := ""
		for i, r := range l {
			most := shared(previous, r.Key)
			if i%restart == 0 {
				offsets += four(len(rows))
				most = 0
			}
			s := slowRow(r, most)
			if i == odd {
				s = otherwise(change, r, previous, most)
			}
			rows += s
			previous = r.Key
		}
		isRead(t, rows+offsets+four(len(offsets)/4)+four(restart), l[odd])
	}
}

// otherwise is a row as bytes in another way, if there is one.
func otherwise(change int, r api.Row, previous string, most int) string {
	key, seq, kind := r.Key, short(r.Seq), string([]byte{byte(r.Kind)})
	value := ""
	if r.Kind == 1 {
		value = field(r.Value)
	}
	head := short(uint64(most)) + field(key[most:])
	switch change {
	case 0:
		head = short(uint64(most/2)) + field(key[most/2:])
	case 1:
		n := shared(previous, key)
		head = short(uint64(n)) + field(key[n:])
	case 2:
		head = short(uint64(len(previous))) + field(key[most:])
	case 3:
		seq = seq[:len(seq)-1] + string([]byte{seq[len(seq)-1] | 128, 0})
	case 4:
		value = field("") + value
	case 5:
		head = short(uint64(most)) + field(key[most:]+"\x00")
	default:
		kind = "\x00"
	}
	return head + seq + kind + value
}

// P11.2, P11.3, P11.5, P11.6: all lists of these rows that are in order, with all intervals that matter, and all of these places.
func TestAllShortLists(t *testing.T) {
	rows := []api.Row{put("a", 3, ""), del("a", 2), put("a", 1, "x"), put("aa", 2, ""), put("ab", 1, "y"), del("ab\x00", 1), put("b", 200, "z"), put("b", 1, "")}
	for some := range 1 << len(rows) {
		var l []api.Row
		for i, r := range rows {
			if some>>i&1 == 1 {
				l = append(l, r)
			}
		}
		for _, restart := range []int{1, 2, 3, 4, 5, 6, 7, 8, 64} {
			isBuilt(t, l, restart)
			isRead(t, slowBlock(l, restart), about(rows)...)
			for n := range l {
				if part, whole := built(t, l[:n], restart), built(t, l, restart); len(part) >= len(whole) {
					t.Errorf("%d bytes for %s, %d for %d of them", len(whole), told(l), len(part), n)
				}
			}
		}
	}
}

// P11.1, P11.2: all lists of up to three of these rows, in all orders, also again.
func TestAllOrders(t *testing.T) {
	rows := []api.Row{put("a", 2, ""), del("a", 1), put("aa", 1, "x"), put("b", 1, ""), {Key: "b", Seq: 0, Kind: 1}, {Key: "", Seq: 1, Kind: 1}, put(fill(521, 'a'), 1, ""), {Key: "c", Seq: 1, Kind: 2, Value: "x"}}
	lists := [][]api.Row{nil}
	for from, more := 0, 3; more > 0; more-- {
		to := len(lists)
		for _, l := range lists[from:to] {
			for _, r := range rows {
				lists = append(lists, append(slices.Clone(l), r))
			}
		}
		from = to
	}
	for _, l := range lists {
		if got, want := block.Order(l), slowOrder(l); got != want {
			t.Errorf("Order of %s: %v", told(l), got)
		}
		for _, restart := range []int{0, 1, 2, 65} {
			isBuilt(t, l, restart)
		}
	}
}

// P11.4: Rows of Build of rows returns these rows, and Build of Rows of a block the block, with the interval that it ends with.
func TestRoundTrip(t *testing.T) {
	for seed := range uint64(300) {
		random := source(seed)
		l := someRows(random, random.IntN(100))
		for range 3 {
			restart := 1 + random.IntN(64)
			s := built(t, l, restart)
			rows, e := block.Rows(s)
			if !slices.Equal(rows, l) || e != api.OK {
				t.Errorf("seed %d: Rows of Build of %s: %s, %v", seed, told(l), told(rows), e)
			}
			if s[len(s)-4:] != four(restart) {
				t.Errorf("seed %d: the block for %d ends with % x", seed, restart, s[len(s)-4:])
			}
			if again := built(t, rows, restart); again != s {
				t.Errorf("seed %d: Build of Rows of a block is another one", seed)
			}
		}
	}
}

// P11.5, P11.6: what Seek returns is the end of what Rows returns, from the same row on for every interval, and the rows ahead of it are all that are before the place.
func TestSeekForEveryInterval(t *testing.T) {
	for seed := range uint64(20) {
		random := source(seed)
		l := someRows(random, random.IntN(90))
		var blocks []string
		for restart := 1; restart <= 64; restart++ {
			blocks = append(blocks, built(t, l, restart))
		}
		places := about(l)
		for range 25 {
			p := places[random.IntN(len(places))]
			before := 0
			for _, r := range l {
				if compare(r, p) < 0 {
					before++
				}
			}
			for i, s := range blocks {
				if got, e := block.Seek(s, p.Key, p.Seq); !slices.Equal(append(slices.Clone(l[:before]), got...), l) || e != api.OK {
					t.Errorf("seed %d: Seek of %q, %d, with %d: %s, %v, want all but %d of %d", seed, brief(p.Key), p.Seq, i+1, told(got), e, before, len(l))
				}
			}
		}
	}
}

// P11.6: one row more makes a longer block, for each interval.
func TestLongerBlocks(t *testing.T) {
	for seed := range uint64(40) {
		random := source(seed)
		l := someRows(random, 80)
		restart := 1 + random.IntN(64)
		length := 0
		for n := range len(l) + 1 {
			s := built(t, l[:n], restart)
			if len(s) <= length {
				t.Errorf("seed %d: %d bytes for %d rows, %d for one less", seed, len(s), n, length)
			}
			length = len(s)
		}
	}
}

// P1: every call ends for any strings, long ones too.
func TestAnyStrings(t *testing.T) {
	long := strings.Repeat("a long key, ", 200000)
	for _, s := range []string{long, long[:65536], long[:65537], long[:65528] + four(0) + four(1), long[:65524] + four(0) + four(1) + four(64), fill(65536, 0), fill(65536, 255), fill(1<<22, 0) + four(0) + four(1)} {
		isNone(t, "a long string", s)
		isSeek(t, s, long, 1)
	}
	isSeek(t, slowBlock(three, 2), long, 1<<64-1)
	isSeek(t, slowBlock(three, 2), "", 1<<64-1)
	isBuilt(t, []api.Row{put(long, 1, long)}, 1)
	isBuilt(t, []api.Row{put("a", 1, ""), put("b", 1, long)}, 1)
}
