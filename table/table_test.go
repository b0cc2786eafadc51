package table_test

import (
	"fmt"
	"math"
	"slices"
	"strings"
	"testing"
	"unsafe"

	"freshet/api"
	"freshet/block"
	"freshet/table"
)

// P12.1 to P12.5: the chapter's examples.
func TestExamples(t *testing.T) {
	x := opened(t, built(t, one, usual))
	if x.First() != "a" || x.Last() != "a" || x.Len() != 1 {
		t.Errorf("First %q, Last %q, Len %d", x.First(), x.Last(), x.Len())
	}
	if r, ok, e := x.Get("a", 5); r != one[0] || !ok || e != api.OK {
		t.Errorf("Get(a, 5): %v, %v, %v", r, ok, e)
	}
	for _, p := range []api.Row{{Key: "a", Seq: 0}, {Key: "b", Seq: 5}} {
		if r, ok, e := x.Get(p.Key, p.Seq); r != (api.Row{}) || ok || e != api.OK {
			t.Errorf("Get(%s, %d): %v, %v, %v", p.Key, p.Seq, r, ok, e)
		}
	}
	if l, e := opened(t, built(t, nil, usual)).Scan("", ""); len(l) != 0 || e != api.OK {
		t.Errorf("Scan of none: %s, %v", told(l), e)
	}
	isCorrupt(t, "empty", "")
}

// P12.2: a table that is cut anywhere, or has a byte more anywhere, is none.
func TestOpenCut(t *testing.T) {
	for _, l := range [][]api.Row{nil, one, mixed} {
		s := built(t, l, usual)
		isOpened(t, "a table", s, about(l)...)
		for i := range s {
			isCorrupt(t, "the first bytes", s[:i])
			if i > 0 {
				isCorrupt(t, "the last bytes", s[i:])
			}
			for _, c := range []string{"\x00", "\x01", "\xff", s[i : i+1]} {
				isHeld(t, "a byte more", s[:i]+c+s[i:])
			}
			isHeld(t, "a byte less", s[:i]+s[i+1:])
		}
		for _, more := range []string{"\x00", "a", s, fill(20, 0), fill(1<<18, 0)} {
			isCorrupt(t, "more bytes behind", s+more)
		}
	}
	for n := range 64 {
		isCorrupt(t, "zeros", fill(n, 0))
		isCorrupt(t, "ones", fill(n, 255))
		isCorrupt(t, "zeros and a footer of zeros", fill(n, 0)+footerOf(0, 0))
	}
}

// mixedPieces are the pieces of the table of mixed, and what its index says.
func mixedPieces() (pieces, []saying) {
	p := slowPieces(mixed, usual)
	_, l := dataOf(slowParts(mixed, usual), usual.Restart)
	return p, l
}

// P12.2: footers with other offsets, and those whose checksum is another one.
func TestOpenFooter(t *testing.T) {
	p, _ := mixedPieces()
	f, i := uint64(len(p.data)), uint64(len(p.data+p.filter))
	s := p.data + p.filter + p.index
	end := uint64(len(s))
	isOpened(t, "the offsets of the pieces", s+footerOf(f, i), about(mixed)...)
	offsets := []uint64{0, 1, f - 1, f, f + 1, i - 1, i, i + 1, end - 1, end, end + 1, end + 20, end + 21, 1 << 31, 1<<32 + f, 1<<32 + i, 1 << 63, 1<<63 + f, 1<<63 + i, math.MaxUint64 - 20, math.MaxUint64 - 1, math.MaxUint64}
	for _, x := range offsets {
		for _, y := range offsets {
			if x == f && y == i {
				continue
			}
			isCorrupt(t, fmt.Sprint("the offsets ", x, " and ", y), s+footerOf(x, y))
		}
	}
	footer := footerOf(f, i)
	for at := range footer {
		for bit := range 8 {
			b := []byte(footer)
			b[at] ^= 1 << bit
			isCorrupt(t, "a bit of the footer", s+string(b))
		}
	}
	isCorrupt(t, "the checksum with its bytes from the highest on", s+footer[:16]+string([]byte{footer[19], footer[18], footer[17], footer[16]}))
	isCorrupt(t, "a checksum of nothing", s+footer[:16]+fill(4, 0))
	isCorrupt(t, "a footer alone", footerOf(0, 0))
	isCorrupt(t, "a footer alone, with offsets at its end", footerOf(20, 20))
}

// P12.2: between the offsets stands exactly one frame, of a filter; and behind it one of a block.
func TestOpenFrames(t *testing.T) {
	p, says := mixedPieces()
	filter, _ := isFrame(p.filter)
	index, _ := isFrame(p.index)
	damaged := func(s string, at int) string {
		b := []byte(s)
		b[at] ^= 4
		return string(b)
	}
	for what, f := range map[string]string{
		"no filter":                            "",
		"a filter without its frame":           filter,
		"a frame of nothing":                   frameOf(""),
		"two frames":                           p.filter + p.filter,
		"a byte behind the frame":              p.filter + "\x00",
		"a byte ahead of the frame":            "\x00" + p.filter,
		"a frame without its last byte":        p.filter[:len(p.filter)-1],
		"a frame with another checksum":        damaged(p.filter, len(p.filter)-1),
		"a frame with another bit":             damaged(p.filter, 2),
		"a frame with another length":          damaged(p.filter, 0),
		"a length in more bytes than it needs": "\x89\x00" + filter + sumOf("\x89\x00"+filter),
		"no probes":                            frameOf("\x00" + fill(8, 255)),
		"23 probes":                            frameOf("\x17" + fill(8, 255)),
		"a filter that is too short":           frameOf("\x01" + fill(7, 255)),
		"a frame that is too long":             frameOf("\x01" + fill(65536, 255)),
		"a block":                              frameOf(slowBlock(mixed, 3)),
	} {
		isCorrupt(t, what+" as the filter", pieces{p.data, f, p.index}.table())
	}
	for what, f := range map[string]string{
		"22 probes":            frameOf("\x16" + fill(8, 255)),
		"all bits":             frameOf("\x01" + fill(9, 255)),
		"no bit":               frameOf("\x01" + fill(65535, 0)),
		"a filter of others":   frameOf(filterOf([]string{"x", "y"}, 20)),
		"a filter of very few": frameOf(filterOf(nil, 1)),
	} {
		isOpened(t, what+" as the filter", pieces{p.data, f, p.index}.table(), about(mixed)...)
	}
	for what, x := range map[string]string{
		"no index":                      "",
		"an index without its frame":    index,
		"a frame of nothing":            frameOf(""),
		"two frames":                    p.index + p.index,
		"a byte behind the frame":       p.index + "\x00",
		"a byte ahead of the frame":     "\x00" + p.index,
		"a frame without its last byte": p.index[:len(p.index)-1],
		"a frame with another checksum": damaged(p.index, len(p.index)-1),
		"a frame with another bit":      damaged(p.index, 5),
		"a frame with another length":   damaged(p.index, 0),
		"a filter":                      p.filter,
		"a block that is cut":           frameOf(index[:len(index)-1]),
		"a block with a byte more":      frameOf("\x00" + index),
		"a block with no interval":      frameOf(index[:len(index)-4] + four(0)),
		"rows that are not in order":    indexOf(says[1], says[0], says[2]),
		"a row that stands twice":       indexOf(says[0], says[0], says[1], says[2]),
	} {
		isCorrupt(t, what+" as the index", pieces{p.data, p.filter, x}.table())
	}
	for _, restart := range []int{2, 3, 64} {
		x := frameOf(slowBlock([]api.Row{says[0].row(), says[1].row(), says[2].row()}, restart))
		isOpened(t, "an index with another interval", pieces{p.data, p.filter, x}.table(), about(mixed)...)
	}
}

// P12.2: rows of the index that may be, or may not be.
func TestOpenIndexRows(t *testing.T) {
	p, says := mixedPieces()
	with := func(value string) string {
		l := []api.Row{says[0].row(), says[1].row(), says[2].row()}
		l[1].Value = value
		return pieces{p.data, p.filter, frameOf(slowBlock(l, 1))}.table()
	}
	first, from, rows := field(says[1].first), short(says[1].from), short(says[1].rows)
	isOpened(t, "what the index says", with(first+from+rows), about(mixed)...)
	for what, value := range map[string]string{
		"nothing":                                    "",
		"no numbers":                                 first,
		"one number":                                 first + from,
		"three numbers":                              first + from + rows + "\x00",
		"four numbers":                               first + from + rows + from + rows,
		"a number ahead":                             "\x00" + first + from + rows,
		"a number of rows in too many bytes":         first + from + "\x81\x00",
		"an offset in too many bytes":                first + "\x9d\x00" + rows,
		"a length in too many bytes":                 "\x81\x00" + says[1].first + from + rows,
		"a number of rows that is cut":               first + from + "\x81",
		"an offset that is cut":                      first + "\x81",
		"a key that is cut":                          "\x03" + says[1].first,
		"numbers that are the key's":                 short(uint64(len(says[1].first+from+rows))) + says[1].first + from + rows,
		"no rows":                                    first + from + "\x00",
		"1025 rows":                                  first + from + short(1025),
		"2^16 + 1 rows":                              first + from + short(1<<16+1),
		"2^32 + 1 rows":                              first + from + short(1<<32+1),
		"2^63 + 1 rows":                              first + from + short(1<<63+1),
		"the most rows":                              first + from + short(math.MaxUint64),
		"a number of rows above all":                 first + from + fill(9, 255) + "\x02",
		"an offset above all":                        first + fill(9, 255) + "\x02" + rows,
		"a key of 521 bytes":                         field(fill(521, 'b')) + from + rows,
		"a key of very many bytes":                   field(fill(2000, 'b')) + from + rows,
		"the offset of the one ahead":                first + short(says[0].from) + rows,
		"the offset of the one behind":               first + short(says[2].from) + rows,
		"an offset beyond the one behind":            first + short(says[2].from+1) + rows,
		"the filter's offset":                        first + short(uint64(len(p.data))) + rows,
		"an offset with a bit more":                  first + short(says[1].from+1<<32) + rows,
		"an offset with the highest bit":             first + short(says[1].from+1<<63) + rows,
		"the highest offset":                         first + short(math.MaxUint64) + rows,
		"the numbers in the other order":             first + rows + short(0),
		"ordered numbers":                            first + eight(says[1].from) + eight(says[1].rows),
		"a length that is above all and wraps round": fill(9, 255) + "\x01" + from + rows,
	} {
		isCorrupt(t, what, with(value))
	}
	for what, value := range map[string]string{
		"1024 rows":                       first + from + short(1024),
		"another number of rows":          first + from + short(says[1].rows+1),
		"an offset that is one too small": first + short(says[1].from-1) + rows,
		"an offset that is one too great": first + short(says[1].from+1) + rows,
		"the least offset":                first + short(1) + rows,
		"the greatest offset":             first + short(says[2].from-1) + rows,
		"an empty key":                    field("") + from + rows,
		"another key":                     field("ba") + from + rows,
		"a key of 520 bytes":              field(fill(520, 'b')) + from + rows,
		"a key that is above all others":  field("\xff") + from + rows,
		"a key that is below all others":  field("\x00") + from + rows,
	} {
		isOpened(t, what, with(value), about(mixed)...)
	}
	for i := range 3 {
		l := []api.Row{says[0].row(), says[1].row(), says[2].row()}
		isHeld(t, "an index with one row less", pieces{p.data, p.filter, frameOf(slowBlock(slices.Delete(l, i, i+1), 1))}.table(), about(mixed)...)
	}
}

// P12.2: each row of the index is as it should be: the first one, one between, the last one, and one alone.
func TestOpenEachIndexRow(t *testing.T) {
	p, says := mixedPieces()
	single := saying{"ab", mixed[5], 0, 6}
	for _, l := range [][]saying{says, says[:1], {single}} {
		for i, x := range l {
			with := func(r api.Row) string {
				var rows []api.Row
				for _, y := range l {
					rows = append(rows, y.row())
				}
				rows[i] = r
				return pieces{p.data, p.filter, frameOf(slowBlock(rows, 1))}.table()
			}
			first, from, rows := field(x.first), short(x.from), short(x.rows)
			isOpened(t, "what the index says", with(x.row()), mixed...)
			for _, value := range []string{
				"", first, first + from, first + from + rows + "\x00", first + from + rows + from, "\x00" + first + from + rows, from + rows, first + rows, "\x80",
				first + from + "\x80", first + from + "\x81\x00", first + from + "\x00", first + from + short(1025), first + from + short(1<<32+1), first + from + short(1<<63+1), first + from + fill(10, 255),
				first + "\x80", first + "\x80\x00", first + "\x80\x00" + rows, first + "\x80\x00" + from + rows, first + fill(10, 255) + rows, first + fill(9, 255) + "\x02" + rows, first + "\x80" + rows + rows,
				"\x80", "\x80\x00", "\x80\x00" + from + rows, field(fill(521, 'b')) + from + rows, fill(9, 255) + "\x01" + from + rows,
				first + short(uint64(len(p.data)+1)) + rows, first + short(x.from+1<<32) + rows, first + short(x.from+1<<63) + rows,
			} {
				isCorrupt(t, fmt.Sprintf("row %d of %d: % x", i, len(l), value), with(put(x.last.Key, x.last.Seq, value)))
			}
			isCorrupt(t, "a delete", with(del(x.last.Key, x.last.Seq)))
			for _, rows := range []uint64{1, 2, 127, 128, 1023, 1024} {
				isOpened(t, "another number of rows", with(put(x.last.Key, x.last.Seq, first+from+short(rows))), mixed...)
			}
			isOpened(t, "a key of 520 bytes", with(put(x.last.Key, x.last.Seq, field(fill(520, 'b'))+from+rows)), mixed...)
			isOpened(t, "another place", with(put(x.last.Key, x.last.Seq^2, first+from+rows)), mixed...)
		}
	}
}

// P12.2: where the data blocks start: the first one at 0, and none beyond the filter; and no data without them.
func TestOpenOffsets(t *testing.T) {
	p, says := mixedPieces()
	end := uint64(len(p.data))
	offsets := []uint64{0, 1, says[1].from - 1, says[1].from, says[1].from + 1, says[2].from, end - 1, end, end + 1, end + 14, 1<<32 + 1, math.MaxUint64}
	for _, a := range offsets {
		for _, b := range offsets {
			for _, c := range offsets {
				l := slices.Clone(says)
				l[0].from, l[1].from, l[2].from = a, b, c
				s := pieces{p.data, p.filter, indexOf(l...)}.table()
				if isHeld(t, fmt.Sprint("offsets ", a, b, c), s, mixed...) != (a == 0 && 0 < b && b < c && c <= end) {
					t.Errorf("the offsets %d, %d, %d are accepted or not", a, b, c)
				}
			}
		}
	}
	one := func(from uint64) string { return indexOf(saying{"ab", mixed[5], from, 6}) }
	isOpened(t, "one data block without bytes", pieces{"", p.filter, one(0)}.table(), mixed...)
	isOpened(t, "one data block for all bytes", pieces{p.data, p.filter, one(0)}.table(), mixed...)
	isCorrupt(t, "the first block at 1", pieces{p.data, p.filter, one(1)}.table())
	isCorrupt(t, "the first block at the filter", pieces{p.data, p.filter, one(end)}.table())
	isOpened(t, "no data blocks", pieces{"", p.filter, indexOf()}.table(), mixed...)
	isCorrupt(t, "no data blocks, but data", pieces{p.data, p.filter, indexOf()}.table())
	isCorrupt(t, "no data blocks, but a byte", pieces{"\x00", p.filter, indexOf()}.table())
}

// P12.2: bytes between the data blocks and the filter, or behind it, that nothing tells of.
func TestOpenGaps(t *testing.T) {
	p, _ := mixedPieces()
	f, i := uint64(len(p.data)), uint64(len(p.data+p.filter))
	isCorrupt(t, "a byte ahead of the index", p.data+p.filter+"\x00"+p.index+footerOf(f, i))
	isCorrupt(t, "a byte ahead of the index, which starts behind it", p.data+p.filter+"\x00"+p.index+footerOf(f, i+1))
	isCorrupt(t, "a byte ahead of the footer", p.data+p.filter+p.index+"\x00"+footerOf(f, i))
	isCorrupt(t, "a byte ahead of the filter", p.data+"\x00"+p.filter+p.index+footerOf(f, i))
	isOpened(t, "a byte ahead of the filter, which starts behind it", p.data+"\x00"+p.filter+p.index+footerOf(f+1, i+1), mixed...)
	isHeld(t, "a byte ahead of all", "\x00"+p.data+p.filter+p.index+footerOf(f+1, i+1), mixed...)
}

// P12.2, P12.3, P12.4: Open does not read the data blocks, and each Get and Scan no others than those that it needs.
func TestReadOnlyWhatIsNeeded(t *testing.T) {
	p, says := mixedPieces()
	all := frameOf("\x01" + fill(8, 255))
	for broken := range 3 {
		b := []byte(p.data)
		b[says[broken].from+3] ^= 1
		for _, filter := range []string{p.filter, all, frameOf("\x01" + fill(8, 0))} {
			isOpened(t, "a broken data block", pieces{string(b), filter, p.index}.table(), about(mixed)...)
		}
		x := opened(t, pieces{string(b), all, p.index}.table())
		if _, e := x.Scan("", ""); e != api.ErrCorrupt {
			t.Errorf("Scan with the broken block %d: %v", broken, e)
		}
		for i, says := range says {
			want := api.OK
			if i == broken {
				want = api.ErrCorrupt
			}
			if _, _, e := x.Get(says.last.Key, says.last.Seq); e != want {
				t.Errorf("Get in block %d with the broken block %d: %v", i, broken, e)
			}
		}
	}
	x := opened(t, pieces{fill(len(p.data), 7), all, p.index}.table())
	if l, e := x.Scan("d", ""); len(l) != 0 || e != api.OK {
		t.Errorf("Scan behind all: %s, %v", told(l), e)
	}
	if l, e := x.Scan("", "ab"); len(l) != 0 || e != api.OK {
		t.Errorf("Scan up to the first key: %s, %v", told(l), e)
	}
	if l, e := x.Scan("", "ab\x00"); l != nil || e != api.ErrCorrupt {
		t.Errorf("Scan of the first key: %s, %v", told(l), e)
	}
	if l, e := x.Scan("c\xff", "a"); len(l) != 0 || e != api.OK {
		t.Errorf("Scan from behind to ahead: %s, %v", told(l), e)
	}
	if l, e := x.Scan("b", "a"); len(l) != 0 || e != api.OK {
		t.Errorf("Scan from the second block to ahead of it: %s, %v", told(l), e)
	}
	if l, e := x.Scan("b", "b\x00"); l != nil || e != api.ErrCorrupt {
		t.Errorf("Scan of b: %s, %v", told(l), e)
	}
	if x.Len() != 6 || x.First() != "ab" || x.Last() != "c\xff" {
		t.Errorf("Len %d, First %q, Last %q", x.Len(), x.First(), x.Last())
	}
	if r, ok, e := x.Get("c\xff", 1<<56-2); r != (api.Row{}) || ok || e != api.OK {
		t.Errorf("Get behind all: %v, %v, %v", r, ok, e)
	}
}

// P12.3, P12.4: a data block whose frame is whole, but which is not what the index says.
func TestReadOtherBlocks(t *testing.T) {
	rows := []api.Row{put("m", 5, "x"), put("m", 4, "y"), put("n", 3, "z")}
	ahead, behind := []api.Row{put("a", 1, "")}, []api.Row{put("z", 1, "")}
	other := func(change func(l []api.Row) []api.Row) []api.Row { return change(slices.Clone(rows)) }
	_, says := dataOf([][]api.Row{ahead, rows, behind}, 2)
	blocks := map[string]string{
		"nothing":                         "",
		"no frame":                        slowBlock(rows, 2),
		"no block":                        frameOf("no block"),
		"a frame of nothing":              frameOf(""),
		"no rows":                         frameOf(slowBlock(nil, 2)),
		"two frames":                      frameOf(slowBlock(rows[:2], 2)) + frameOf(slowBlock(rows[2:], 2)),
		"the same frame twice":            frameOf(slowBlock(rows, 2)) + frameOf(slowBlock(rows, 2)),
		"a byte behind the frame":         frameOf(slowBlock(rows, 2)) + "\x00",
		"a frame that is cut":             frameOf(slowBlock(rows, 2))[:20],
		"a block that is cut":             frameOf(slowBlock(rows, 2)[1:]),
		"fewer rows, without the first":   frameOf(slowBlock(rows[1:], 2)),
		"fewer rows, without the last":    frameOf(slowBlock(rows[:2], 2)),
		"fewer rows, without one between": frameOf(slowBlock([]api.Row{rows[0], rows[2]}, 2)),
		"more rows, behind":               frameOf(slowBlock(append(slices.Clone(rows), put("o", 1, "")), 2)),
		"more rows, between":              frameOf(slowBlock(slices.Insert(slices.Clone(rows), 1, put("mm", 1, "")), 2)),
		"another first key":               frameOf(slowBlock(other(func(l []api.Row) []api.Row { l[0].Key = "l"; return l }), 2)),
		"a first key with a byte more":    frameOf(slowBlock(other(func(l []api.Row) []api.Row { l[0].Key, l[1].Key = "m\x00", "m\x00"; return l }), 2)),
		"another last key":                frameOf(slowBlock(other(func(l []api.Row) []api.Row { l[2].Key = "o"; return l }), 2)),
		"a last key with a byte more":     frameOf(slowBlock(other(func(l []api.Row) []api.Row { l[2].Key = "n\x00"; return l }), 2)),
		"a greater last number":           frameOf(slowBlock(other(func(l []api.Row) []api.Row { l[2].Seq = 4; return l }), 2)),
		"a smaller last number":           frameOf(slowBlock(other(func(l []api.Row) []api.Row { l[2].Seq = 2; return l }), 2)),
		"a last number with a bit more":   frameOf(slowBlock(other(func(l []api.Row) []api.Row { l[2].Seq += 1 << 40; return l }), 2)),
		// These are what the index says, as it says nothing of the rest.
		"the rows":                 frameOf(slowBlock(rows, 2)),
		"another interval":         frameOf(slowBlock(rows, 64)),
		"other values":             frameOf(slowBlock(other(func(l []api.Row) []api.Row { l[0].Value, l[2].Value = "u", "v"; return l }), 2)),
		"another first number":     frameOf(slowBlock(other(func(l []api.Row) []api.Row { l[0].Seq = 77; return l }), 2)),
		"a last row that deletes":  frameOf(slowBlock(other(func(l []api.Row) []api.Row { l[2] = del("n", 3); return l }), 2)),
		"another row between":      frameOf(slowBlock(other(func(l []api.Row) []api.Row { l[1] = put("mmm", 99, "w"); return l }), 2)),
		"a first row that deletes": frameOf(slowBlock(other(func(l []api.Row) []api.Row { l[0] = del("m", 5); return l }), 2)),
	}
	readable := 0
	for what, b := range blocks {
		data := frameOf(slowBlock(ahead, 2))
		l := slices.Clone(says)
		l[1].from = uint64(len(data))
		data += b
		l[2].from = uint64(len(data))
		data += frameOf(slowBlock(behind, 2))
		s := pieces{data, frameOf("\x01" + fill(8, 255)), indexOf(l...)}.table()
		if b == "" {
			isCorrupt(t, what, s)
			continue
		}
		isOpened(t, what, s, about(append(slices.Clone(rows), put("a", 1, ""), put("mmm", 9, ""), put("z", 1, "")))...)
		if _, e := opened(t, s).Scan("", ""); e == api.OK {
			readable++
		}
	}
	if readable != 7 {
		t.Errorf("%d of them are what the index says", readable)
	}
}

// P12.3, P12.4: a table with blocks in which keys stand that are ahead of those of the block before; no table of Build is so, but Open accepts it.
func TestBlocksThatOverlap(t *testing.T) {
	parts := [][]api.Row{{put("c", 5, "1"), put("h", 5, "2")}, {put("a", 3, "3"), put("c", 9, "4"), put("h", 4, "5")}, {put("h", 5, "6"), put("h", 3, "7")}, {put("b", 1, "8"), put("z", 1, "9")}}
	data, says := dataOf(parts, 4)
	var all []api.Row
	for _, l := range parts {
		all = append(all, l...)
	}
	isOpened(t, "blocks that overlap", pieces{data, frameOf("\x01" + fill(8, 255)), indexOf(says...)}.table(), about(all)...)
	isOpened(t, "blocks that overlap", pieces{data, frameOf(filterOf(keysOf(all), 10)), indexOf(says...)}.table(), about(all)...)
}

// P12.3, P12.4: versions of one key that fill several data blocks.
func TestVersionsOverBlocks(t *testing.T) {
	var l []api.Row
	for _, key := range []string{"k", "k\x00", "l"} {
		for i := range 60 {
			l = append(l, put(key, uint64(200-3*i), fill(i%17, 'v')))
		}
	}
	for _, o := range []api.TableOptions{usual, opts(64, 1, 1), opts(100, 3, 32), opts(16384, 64, 10)} {
		s := built(t, l, o)
		isOpened(t, "versions", s, about(l[50:70])...)
		x := opened(t, s)
		for at := range uint64(210) {
			for _, key := range []string{"k", "k\x00", "k\x01", "l", "j", "m"} {
				want, wantOk := version(l, key, at)
				if r, ok, e := x.Get(key, at); r != want || ok != wantOk || e != api.OK {
					t.Errorf("Get of %q, %d with %v: %s, %v, %v", key, at, o, told([]api.Row{r}), ok, e)
				}
			}
		}
		for key, n := range map[string]int{"k": 60, "k\x00": 60, "l": 60, "j": 0, "k\x01": 0, "m": 0} {
			if l, e := x.Scan(key, key+"\x00"); len(l) != n || e != api.OK {
				t.Errorf("Scan of %q alone with %v: %s, %v", key, o, told(l), e)
			}
		}
	}
}

// P12.3: a key that the filter does not have is not looked for, even if it stands in the table.
func TestGetAsksFilter(t *testing.T) {
	p, _ := mixedPieces()
	none, all := frameOf("\x01"+fill(8, 0)), frameOf("\x01"+fill(8, 255))
	for _, r := range mixed {
		x := opened(t, pieces{p.data, none, p.index}.table())
		if got, ok, e := x.Get(r.Key, r.Seq); got != (api.Row{}) || ok || e != api.OK || x.May(r.Key) {
			t.Errorf("Get of %q with a filter of none: %s, %v, %v", r.Key, told([]api.Row{got}), ok, e)
		}
		if l, e := x.Scan("", ""); !slices.Equal(l, mixed) || e != api.OK {
			t.Errorf("Scan with a filter of none: %s, %v", told(l), e)
		}
		x = opened(t, pieces{p.data, all, p.index}.table())
		if got, ok, e := x.Get(r.Key, r.Seq); got != r || !ok || e != api.OK || !x.May(r.Key) || !x.May("any") {
			t.Errorf("Get of %q with a filter of all: %s, %v, %v", r.Key, told([]api.Row{got}), ok, e)
		}
	}
}

// P12.3 to P12.5: on a table that is nil, or that Open did not return, Get and Scan return ErrNil, and the others zero values.
func TestNil(t *testing.T) {
	failed, _ := table.Open("")
	for what, x := range map[string]*table.Table{"a nil table": nil, "a zero table": {}, "a new table": new(table.Table), "what Open returned with an error": failed} {
		for range 2 {
			if r, ok, e := x.Get("a", 1); r != (api.Row{}) || ok || e != api.ErrNil {
				t.Errorf("%s: Get: %v, %v, %v", what, r, ok, e)
			}
			if r, ok, e := x.Get("", math.MaxUint64); r != (api.Row{}) || ok || e != api.ErrNil {
				t.Errorf("%s: Get of no key: %v, %v, %v", what, r, ok, e)
			}
			for _, to := range []string{"", "a", "b"} {
				if l, e := x.Scan("a", to); l != nil || e != api.ErrNil {
					t.Errorf("%s: Scan: %s, %v", what, told(l), e)
				}
			}
			if x.Len() != 0 || x.First() != "" || x.Last() != "" || x.May("a") || x.May("") {
				t.Errorf("%s: %d, %q, %q, %v", what, x.Len(), x.First(), x.Last(), x.May("a"))
			}
		}
	}
}

// P12.5: of a table without rows there are no keys, but its methods are not those of a nil one.
func TestNoRows(t *testing.T) {
	x := opened(t, built(t, nil, usual))
	if x.Len() != 0 || x.First() != "" || x.Last() != "" || x.May("a") || x.May("") {
		t.Errorf("%d, %q, %q, %v", x.Len(), x.First(), x.Last(), x.May("a"))
	}
	if r, ok, e := x.Get("a", 1); r != (api.Row{}) || ok || e != api.OK {
		t.Errorf("Get: %v, %v, %v", r, ok, e)
	}
	for _, from := range []string{"", "a"} {
		for _, to := range []string{"", "a", "b"} {
			if l, e := x.Scan(from, to); len(l) != 0 || e != api.OK {
				t.Errorf("Scan from %q to %q: %s, %v", from, to, told(l), e)
			}
		}
	}
	all := opened(t, pieces{"", frameOf("\x01" + fill(8, 255)), indexOf()}.table())
	if r, ok, e := all.Get("a", 1); r != (api.Row{}) || ok || e != api.OK || !all.May("a") {
		t.Errorf("Get with a filter of all: %v, %v, %v", r, ok, e)
	}
}

// P12.5: Len is what the index says, in all data blocks, whatever the blocks say; First and Last too.
func TestLenOfIndex(t *testing.T) {
	p, says := mixedPieces()
	says[0].rows, says[1].rows, says[2].rows = 1024, 1, 1000
	says[0].first, says[1].first, says[2].first = "q", "r", ""
	x := opened(t, pieces{p.data, p.filter, indexOf(says...)}.table())
	if x.Len() != 2025 || x.First() != "q" || x.Last() != "c\xff" {
		t.Errorf("Len %d, First %q, Last %q", x.Len(), x.First(), x.Last())
	}
	if l, e := x.Scan("", ""); l != nil || e != api.ErrCorrupt {
		t.Errorf("Scan: %s, %v", told(l), e)
	}
}

// memory has the places of the bytes of strings.
type memory map[*byte]bool

// isNew tells whether none of the bytes of s is there already.
func (m memory) isNew(s string) bool {
	for i := range len(s) {
		at := unsafe.StringData(s[i:])
		if m[at] {
			return false
		}
		m[at] = true
	}
	return true
}

// P12.1 to P12.5: results are in memory of their own, and share nothing with what was passed nor with the table's own bytes.
func TestNewMemory(t *testing.T) {
	l := []api.Row{put("aab", 3, "xyz"), del("aab", 2), put("aab", 1, "xyz"), put("aabc", 9, fill(60, 'u')), put("bb", 2, "uv"), put("bb", 1, "uv")}
	m := memory{}
	one, two := built(t, l, usual), built(t, l, usual)
	if !m.isNew(one) || !m.isNew(two) {
		t.Error("two tables in one memory")
	}
	x := opened(t, one)
	key := strings.Clone("aabc")
	for range 2 {
		rows, _ := x.Scan("", "")
		some, _ := x.Scan("aab", "ab")
		found, ok, _ := x.Get(key, 9)
		if len(rows) != 6 || len(some) != 4 || !ok {
			t.Fatalf("%d rows, %d of them, %v", len(rows), len(some), ok)
		}
		for _, r := range append(append(rows, some...), found) {
			if !m.isNew(r.Key) || !m.isNew(r.Value) {
				t.Errorf("the row %s shares memory", told([]api.Row{r}))
			}
		}
		if first, last := x.First(), x.Last(); !m.isNew(first) || !m.isNew(last) {
			t.Errorf("First %q or Last %q shares memory", first, last)
		}
	}
	if !m.isNew(key) {
		t.Error("Get returned the key that it was passed")
	}
}

// P12.2: a table keeps nothing of the memory that Open was passed, nor of the keys.
func TestOpenKeepsNothing(t *testing.T) {
	for _, l := range [][]api.Row{one, mixed} {
		want := built(t, l, usual)
		b := []byte(want)
		x := opened(t, unsafe.String(&b[0], len(b)))
		for i := range b {
			b[i] = 0xaa
		}
		key := []byte("ab")
		x.Get(unsafe.String(&key[0], 2), 2)
		x.Scan(unsafe.String(&key[0], 2), "")
		key[0] = 'z'
		y := opened(t, want)
		first, _ := x.Scan("", "")
		second, _ := y.Scan("", "")
		if !slices.Equal(first, l) || !slices.Equal(second, l) || x.First() != y.First() || x.Last() != y.Last() || x.Len() != y.Len() {
			t.Errorf("the table changed with the bytes: %s", told(first))
		}
		for _, r := range l {
			if got, ok, e := x.Get(r.Key, r.Seq); got != r || !ok || e != api.OK || !x.May(r.Key) {
				t.Errorf("Get of %s: %s, %v, %v", told([]api.Row{r}), told([]api.Row{got}), ok, e)
			}
		}
	}
}

// P2: the same calls return the same again, whatever the caller did to an earlier result; and a table that is opened twice is the same twice.
func TestSameAgain(t *testing.T) {
	l := manyRows(300)
	for _, o := range []api.TableOptions{usual, opts(300, 2, 3), opts(16384, 64, 32)} {
		s := built(t, l, o)
		x, y := opened(t, s), opened(t, s)
		for range 3 {
			rows, _ := x.Scan("", "")
			if !slices.Equal(rows, l) {
				t.Errorf("Scan with %v: %s", o, told(rows))
			}
			for i := range rows {
				rows[i] = api.Row{}
			}
			_ = append(rows[:0], put("other", 1, ""))
			part, e := x.Scan(l[10].Key, l[20].Key)
			other, _ := y.Scan(l[10].Key, l[20].Key)
			if !slices.Equal(part, l[10:20]) || !slices.Equal(other, part) || e != api.OK {
				t.Errorf("a part with %v: %s", o, told(part))
			}
			if r, ok, e := x.Get(l[7].Key, 9); r != l[7] || !ok || e != api.OK {
				t.Errorf("Get with %v: %v, %v, %v", o, r, ok, e)
			}
			built(t, mixed, usual)
			if again := built(t, l, o); again != s {
				t.Errorf("another table the second time with %v", o)
			}
		}
	}
}

// P1: every call ends for any strings and numbers, long ones too.
func TestAnyStrings(t *testing.T) {
	long := strings.Repeat("a long key, ", 200000)
	for _, s := range []string{long, long[:262144], long[:262145], long[:20], fill(1<<22, 0), fill(262144, 255), fill(262124, 0) + footerOf(0, 0), fill(262124, 255) + footerOf(0, 262124), fill(262124, 0) + footerOf(262124, 262124)} {
		isCorrupt(t, "a long string", s)
	}
	x := opened(t, built(t, mixed, usual))
	for _, key := range []string{"", "\x00", long, "\xff" + long, fill(521, 'k')} {
		for _, at := range []uint64{0, 1, 1 << 56, math.MaxUint64} {
			if r, ok, e := x.Get(key, at); r != (api.Row{}) || ok || e != api.OK {
				t.Errorf("Get of %q, %d: %v, %v, %v", brief(key), at, r, ok, e)
			}
		}
		x.May(key)
		for _, to := range []string{"", long, "\xff", "\x00"} {
			from, e := x.Scan(key, to)
			want := slices.DeleteFunc(slices.Clone(mixed), func(r api.Row) bool { return r.Key < key || to != "" && r.Key >= to })
			if !slices.Equal(from, want) || e != api.OK {
				t.Errorf("Scan from %q to %q: %s, %v", brief(key), brief(to), told(from), e)
			}
		}
	}
	if e := block.Check(put(long, 1, long)); e != api.ErrLong {
		t.Error(e)
	}
	isNotBuilt(t, "very long strings", []api.Row{put(long, 1, long)}, usual, api.ErrLong)
}
