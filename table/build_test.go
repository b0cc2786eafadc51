package table_test

import (
	"encoding/hex"
	"fmt"
	"math"
	"slices"
	"strings"
	"testing"

	"freshet/api"
	"freshet/table"
)

// usual are the options of the chapter's examples.
var usual = opts(64, 16, 10)

// one is the row of the chapter's examples.
var one = []api.Row{put("a", 1, "x")}

// mixed are rows of several kinds: versions, deletes, a value that is longer than a block, and numbers of many bytes.
var mixed = []api.Row{put("ab", 2, "x"), del("ab", 1), put("b", 300, fill(70, 'y')), del("b", 299), put("c\x00", 1, ""), put("c\xff", 1<<56-1, "z")}

// P12.1: tables whose bytes were worked out by other means.
func TestBuildKnown(t *testing.T) {
	for _, c := range []struct {
		rows []api.Row
		o    api.TableOptions
		want string
	}{
		{one, usual, "13" + "000161010101780000000001000000100000" + "00" + "8161fb47" +
			"09" + "070042000021008410" + "4912f7ac" +
			"16" + "000161010104016100010000000001000000" + "01000000" + "f966deba" +
			"1800000000000000" + "2600000000000000" + "c880d663"},
		{nil, usual, "09" + "070000000000000000" + "daae31a9" +
			"08" + "0000000001000000" + "8c30d3de" +
			"0000000000000000" + "0e00000000000000" + "13e62eb3"},
		{mixed, opts(64, 2, 1), "18" + "0002616202010178020001020000000001000000" + "02000000" + "59289ca4" +
			"59" + "000162ac020146" + strings.Repeat("79", 70) + "000000000100000002000000" + "364cfe75" +
			"2c" + "000162ab020200026300010100000263ffffffffffffffff7f01017a000000000d0000000200000002000000" + "4b869af5" +
			"09" + "010000000040050000" + "0bdf560a" +
			"3d" + "000261620101050261620002" + "000162ac02010401621d01" + "000263ffffffffffffffff7f010401627b03" + "000000000c00000017000000" + "0300000001000000" + "ea274913" +
			"ac00000000000000" + "ba00000000000000" + "7d09d8fd"},
		{mixed, opts(64, 64, 32), "18" + "0002616202010178020001020000000001000000" + "40000000" + "3f545db0" +
			"59" + "000162ac020146" + strings.Repeat("79", 70) + "000000000100000040000000" + "50303f61" +
			"27" + "000162ab0202000263000101000101ffffffffffffffff7f01017a000000000100000040000000" + "82b646cc" +
			"11" + "1692bfc99bed75d125b072324a68df64df" + "fde67b5b" +
			"3d" + "000261620101050261620002" + "000162ac02010401621d01" + "000263ffffffffffffffff7f010401627b03" + "000000000c00000017000000" + "0300000001000000" + "ea274913" +
			"a700000000000000" + "bd00000000000000" + "ad439c9d"},
	} {
		want, wrong := hex.DecodeString(c.want)
		if s, e := table.Build(c.rows, c.o); s != string(want) || e != api.OK || wrong != nil {
			t.Errorf("Build of %s with %v: % x, %v, want % x, %v", told(c.rows), c.o, s, e, want, wrong)
		}
		isBuilt(t, c.rows, c.o)
	}
}

// P12.1: options, those that may be and those beside them, for which nothing else matters.
func TestBuildOptions(t *testing.T) {
	good := map[string][]int{"block": {64, 65, 128, 255, 256, 4096, 16383, 16384}, "restart": {1, 2, 16, 63, 64}, "bits": {1, 2, 3, 10, 31, 32}}
	bad := map[string][]int{"block": {63, 16385, 32768, 65536, 1<<16 + 64, 1<<32 + 64}, "restart": {65, 66, 256 + 1, 1<<32 + 1}, "bits": {33, 34, 256 + 1, 1<<32 + 1}}
	with := func(name string, n int) api.TableOptions {
		o := usual
		switch name {
		case "block":
			o.Block = n
		case "restart":
			o.Restart = n
		default:
			o.Bits = n
		}
		return o
	}
	for name, l := range good {
		for _, n := range l {
			if !isBuilt(t, mixed, with(name, n)) || !isBuilt(t, nil, with(name, n)) {
				t.Errorf("the %s %d is refused", name, n)
			}
		}
	}
	for name, l := range bad {
		for _, n := range append(l, 0, -1, -64, math.MaxInt, math.MinInt) {
			for _, rows := range [][]api.Row{nil, one, mixed, {put(fill(521, 'k'), 1, "")}} {
				isNotBuilt(t, "rows with the "+name+" "+fmt.Sprint(n), rows, with(name, n), api.ErrArg)
			}
		}
	}
	for _, o := range []api.TableOptions{{}, {Block: 16}, opts(16, 64, 64), opts(64, 64, 64), opts(1, 1, 1)} {
		isNotBuilt(t, "rows", one, o, api.ErrArg)
	}
	for _, o := range []api.TableOptions{opts(64, 1, 1), opts(64, 1, 32), opts(64, 64, 1), opts(16384, 1, 1), opts(16384, 64, 32)} {
		if !isBuilt(t, mixed, o) {
			t.Errorf("the options %v are refused", o)
		}
	}
}

// P12.1: every cause of ErrArg in rows, wherever it is, comes ahead of every cause of ErrLong, wherever that is.
func TestBuildErrors(t *testing.T) {
	wrong := []api.Row{{Key: "m", Seq: 1}, {Key: "m", Seq: 1, Kind: 3}, {Key: "m", Seq: 1, Kind: -1}, put("m", 0, ""), put("m", 1<<56, ""), put("m", math.MaxUint64, ""), {Key: "m", Seq: 1, Kind: 2, Value: "x"}}
	long := []api.Row{put(fill(521, 'm'), 1, ""), put("m", 1, fill(2049, 'v')), del(fill(600, 'm'), 1)}
	for _, r := range wrong {
		isNotBuilt(t, "a wrong row", []api.Row{r}, usual, api.ErrArg)
		isNotBuilt(t, "a wrong first row", []api.Row{r, put("n", 1, "")}, usual, api.ErrArg)
		isNotBuilt(t, "a wrong last row", []api.Row{put("a", 1, ""), r}, usual, api.ErrArg)
		for _, much := range long {
			much.Key = "a" + much.Key
			isNotBuilt(t, "a long row and a wrong one", []api.Row{much, r}, usual, api.ErrArg)
			much.Key = "x" + much.Key
			isNotBuilt(t, "a wrong row and a long one", []api.Row{r, much}, usual, api.ErrArg)
			isNotBuilt(t, "a long row between", []api.Row{put("a", 2, ""), r, much, put("z", 1, "")}, usual, api.ErrArg)
		}
	}
	isNotBuilt(t, "an empty key", []api.Row{put("", 1, "")}, usual, api.ErrArg)
	isNotBuilt(t, "an empty key ahead of others", []api.Row{put("", 1, ""), put("a", 1, "")}, usual, api.ErrArg)
	for _, r := range long {
		isNotBuilt(t, "a long row", []api.Row{r}, usual, api.ErrLong)
		isNotBuilt(t, "a long row among others", []api.Row{put("a", 1, ""), r, put("z", 1, "")}, usual, api.ErrLong)
		isNotBuilt(t, "a long row behind another one", []api.Row{put("z", 1, ""), r}, usual, api.ErrArg)
	}
	for _, r := range []api.Row{put(fill(520, 'm'), 1<<56-1, fill(2048, 'v')), del(fill(520, 'm'), 1), put("m", 1, "")} {
		if !isBuilt(t, []api.Row{r}, usual) || !isBuilt(t, []api.Row{put("a", 1, ""), r, put("z", 1, "")}, usual) {
			t.Errorf("%s is refused", told([]api.Row{r}))
		}
	}
}

// P12.1: rows that are not in order, wherever, also within what would be one block or two.
func TestBuildOrder(t *testing.T) {
	isNotBuilt(t, "b ahead of a", []api.Row{put("b", 1, ""), put("a", 1, "")}, usual, api.ErrArg)
	isNotBuilt(t, "a row twice", []api.Row{put("a", 1, "x"), put("a", 1, "x")}, usual, api.ErrArg)
	isNotBuilt(t, "a place twice", []api.Row{put("a", 1, "x"), del("a", 1)}, usual, api.ErrArg)
	isNotBuilt(t, "the smaller number first", []api.Row{put("a", 1, "x"), put("a", 2, "x")}, usual, api.ErrArg)
	l := manyRows(40)
	for i := range l {
		for j := range i {
			m := slices.Clone(l)
			m[i], m[j] = m[j], m[i]
			isNotBuilt(t, "two that changed places", m, usual, api.ErrArg)
		}
		isNotBuilt(t, "one that stands again", slices.Insert(slices.Clone(l), i, l[i]), usual, api.ErrArg)
	}
	big := manyRows(200000)
	big[len(big)-1] = big[len(big)-2]
	isNotBuilt(t, "too many rows, the last one twice", big, usual, api.ErrArg)
	big[len(big)-1] = put("l", 1, "")
	big[len(big)-1].Kind = 0
	isNotBuilt(t, "too many rows, the last one of no kind", big, usual, api.ErrArg)
}

// P12.1: a part has the greatest number of rows whose block has at most so many bytes, however great it is, and at least one.
func TestBuildParts(t *testing.T) {
	for n := range 70 {
		for _, restart := range []int{1, 2, 5, 64} {
			// Values that grow by one byte make blocks of every length about the limit.
			for _, value := range []int{0, 1, 5, 30, 50, 51, 52, 53, 54, 55, 200} {
				l := manyRows(n % 24)
				for i := range l {
					l[i].Value = fill((value+i*n)%(value+60), 'v')
				}
				isBuilt(t, l, opts(64+n, restart, 1+n%32))
			}
		}
	}
	for n := 1; n <= 130; n++ {
		l := manyRows(n)
		if parts := slowParts(l, opts(16384, 64, 1)); len(parts) != 1 {
			t.Errorf("%d rows in %d blocks", n, len(parts))
		}
		isBuilt(t, l, opts(16384, 64, 1))
		isBuilt(t, l, opts(64, 1, 1))
	}
}

// P12.1: a block of exactly so many bytes is not too long, one with a byte more is; both as the first one and behind others.
func TestBuildBlockLimit(t *testing.T) {
	for _, limit := range []int{64, 65, 100, 1000, 16383, 16384} {
		for over := range 2 {
			l := []api.Row{put("a", 1, "")}
			for i := 0; len(slowBlock(append(slices.Clone(l), put("z", 1, "")), 7))+2100 < limit; i++ {
				l = append(l, put(fmt.Sprintf("b%04d", i), 1, fill(2000, 'v')))
			}
			l = append(l, put("z", 1, ""))
			last := &l[len(l)-1]
			for len(slowBlock(l, 7)) < limit+over {
				last.Value += "v"
			}
			if len(slowBlock(l, 7)) != limit+over {
				t.Fatalf("limit %d: %d bytes", limit, len(slowBlock(l, 7)))
			}
			if parts := slowParts(l, opts(limit, 7, 4)); len(parts) != 1+over {
				t.Errorf("limit %d, over %d: %d parts", limit, over, len(parts))
			}
			isBuilt(t, l, opts(limit, 7, 4))
			isBuilt(t, append([]api.Row{put("A", 1, fill(2048, 'v'))}, l...), opts(limit, 7, 4))
		}
	}
}

// P12.1: a part has at most 1024 rows, though more would have room.
func TestBuildRowsOfPart(t *testing.T) {
	for _, n := range []int{1, 2, 1023, 1024, 1025, 1026, 2047, 2048, 2049, 2100, 3072, 3073} {
		var l []api.Row
		for i := range n {
			l = append(l, del("k", uint64(n-i)))
		}
		o := opts(16384, 64, 1)
		if parts := slowParts(l, o); len(parts) != (n+1023)/1024 {
			t.Errorf("%d rows in %d parts", n, len(parts))
		}
		if isBuilt(t, l, o); opened(t, built(t, l, o)).Len() != n {
			t.Errorf("%d rows are not so many in the table", n)
		}
	}
}

// P12.1: the filter counts each key once; the greatest one that fits into a frame has 16383 keys of 32 bits.
func TestBuildFilterLimit(t *testing.T) {
	keys := func(n int) []api.Row {
		var l []api.Row
		for i := range n {
			l = append(l, del(string([]byte{byte(i >> 8), byte(i)}), 2))
		}
		return l
	}
	most := keys(16383)
	if !isBuilt(t, most, opts(16384, 64, 32)) {
		t.Error("16383 keys are refused")
	}
	again := slices.Insert(slices.Clone(most), 9001, del(most[9000].Key, 1))
	if len(again) != 16384 || !isBuilt(t, again, opts(16384, 64, 32)) {
		t.Error("16383 keys, of which one stands twice, are refused")
	}
	isNotBuilt(t, "16384 keys of 32 bits", keys(16384), opts(16384, 64, 32), api.ErrLong)
	isNotBuilt(t, "16913 keys of 31 bits", keys(16913), opts(16384, 64, 31), api.ErrLong)
	if isBuilt(t, keys(16384), opts(16384, 64, 32)); len(slowPieces(keys(16384), opts(16384, 64, 32)).table()) > 1<<18 {
		t.Error("the table would be too long anyway")
	}
	for _, n := range []int{16384, 16912, 20000} {
		if !isBuilt(t, keys(n), opts(16384, 64, 10)) {
			t.Errorf("%d keys of 10 bits are refused", n)
		}
	}
	// The last one is not the same as the one ahead of it, but as another one's key.
	isBuilt(t, []api.Row{del("a", 2), del("a", 1), del("ab", 2), del("b", 3), del("b", 2), del("b", 1)}, opts(64, 1, 32))
}

// P12.1: an index has at most 1024 rows.
func TestBuildIndexRows(t *testing.T) {
	rows := func(n int) []api.Row {
		l := manyRows(n)
		for i := range l {
			l[i].Value = fill(50, 'v')
		}
		return l
	}
	if l := rows(1024); len(slowParts(l, usual)) != 1024 || !isBuilt(t, l, usual) {
		t.Error("1024 data blocks are refused")
	}
	l := rows(1025)
	if n := len(slowPieces(l, usual).table()); n > 1<<18 || len(slowPieces(l, usual).index) > 65536 {
		t.Errorf("the table would be too long anyway: %d bytes", n)
	}
	isNotBuilt(t, "1025 data blocks", l, usual, api.ErrLong)
	if !isBuilt(t, l, opts(128, 16, 10)) {
		t.Error("1025 rows in fewer data blocks are refused")
	}
}

// P12.1: an index has at most 65536 bytes.
func TestBuildIndexBytes(t *testing.T) {
	index := func(l []api.Row) int {
		p, _ := isFrame(slowPieces(l, usual).index)
		return len(p)
	}
	var l []api.Row
	for i := range 61 {
		l = append(l, put(fmt.Sprintf("%02d", i)+fill(518, 'k'), 1, fill(i, 'v')))
	}
	// The last row's key stands twice in the index, a number of two bytes in place of one adds one.
	last := &l[len(l)-1]
	l = append(l, put("z", 127, ""))
	last = &l[len(l)-1]
	last.Key = fill(min((65536-index(l))/2-30, 519), 'z')
	l = append(l, put("~", 127, ""))
	last = &l[len(l)-1]
	for rest := 65536 - index(l); rest > 1; rest = 65536 - index(l) {
		last.Key += "~"
	}
	if index(l) < 65536 {
		last.Seq = 128
	}
	if n := len(slowPieces(l, usual).table()); index(l) != 65536 || n > 1<<18-1000 {
		t.Fatalf("the index has %d bytes, the table %d", index(l), n)
	}
	if !isBuilt(t, l, usual) {
		t.Error("an index of 65536 bytes is refused")
	}
	last.Seq *= 128
	if _, e := slowBuild(l, usual); index(l) != 65537 || e != api.ErrLong {
		t.Fatalf("the index has %d bytes: %v", index(l), e)
	}
	isNotBuilt(t, "an index of 65537 bytes", l, usual, api.ErrLong)
}

// exactly has rows whose table has so many bytes with these options.
func exactly(t *testing.T, size int, o api.TableOptions) []api.Row {
	var l []api.Row
	for i := range size / 2100 {
		l = append(l, put(fmt.Sprintf("k%04d", i), uint64(i+1), fill(2048-i%5, 'v')))
	}
	for i := range 4 {
		l = append(l, put(fmt.Sprintf("z%d", i), 1, ""))
	}
	for i := range 100 {
		more := size - len(slowPieces(l, o).table())
		if more == 0 {
			return l
		}
		r := &l[len(l)-1-i%4]
		r.Value = fill(min(max(len(r.Value)+more, 0), 2048), 'z')
	}
	t.Fatalf("no table of %d bytes with %v", size, o)
	return nil
}

// P12.1, P12.2: tables of exactly 262144 bytes, and of one more.
func TestBuildLongestTable(t *testing.T) {
	for _, o := range []api.TableOptions{opts(16384, 16, 10), opts(4096, 1, 32)} {
		if l := exactly(t, 262144, o); !isBuilt(t, l, o) {
			t.Errorf("262144 bytes with %v are refused", o)
		} else {
			isOpened(t, "the longest table", built(t, l, o), l[3], l[len(l)-1], put("k0100", 7, ""))
		}
		l := exactly(t, 262145, o)
		isNotBuilt(t, "262145 bytes", l, o, api.ErrLong)
		isCorrupt(t, "262145 bytes", slowPieces(l, o).table())
		isNotBuilt(t, "300000 bytes", exactly(t, 300000, o), o, api.ErrLong)
	}
}

// P12.1, P1: very many rows are refused soon.
func TestBuildVeryManyRows(t *testing.T) {
	l := manyRows(1 << 20)
	for _, o := range []api.TableOptions{usual, opts(16384, 64, 1), opts(16384, 1, 32), opts(64, 1, 1)} {
		isNotBuilt(t, "too many rows", l, o, api.ErrLong)
		isNotBuilt(t, "too many keys", l[:65537], o, api.ErrLong)
	}
	isNotBuilt(t, "too many rows", l, opts(64, 1, 0), api.ErrArg)
	same := make([]api.Row, 1<<20)
	for i := range same {
		same[i] = del("k", uint64(len(same)-i))
	}
	isNotBuilt(t, "too many rows of one key", same, opts(16384, 64, 1), api.ErrLong)
}

// P12.1: a nil list and an empty one are the same; the rows stay as they were, behind the list's length too.
func TestRowsStay(t *testing.T) {
	a, b := built(t, nil, usual), built(t, []api.Row{}, usual)
	if a != b || len(a) != 47 {
		t.Errorf("% x for a nil list, % x for an empty one", a, b)
	}
	whole := append(slices.Clone(mixed), put("d", 1, "behind"), put("e", 1, "it"))
	was := slices.Clone(whole)
	want, _ := slowBuild(mixed, usual)
	s := built(t, whole[:len(mixed)], usual)
	table.Build(whole[:len(mixed)], opts(1, 1, 1))
	table.Build(whole[:0], usual)
	if !slices.Equal(whole, was) {
		t.Errorf("the rows are changed to %s", told(whole))
	}
	whole[0].Key, whole[1].Value = "changed", "too"
	if s != want {
		t.Errorf("the table changed with the rows: % x", s)
	}
}
