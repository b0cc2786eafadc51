package edit_test

import (
	"fmt"
	"math"
	"slices"
	"testing"

	"freshet/api"
	"freshet/edit"
)

// isCoded tests that the edit's encoding is that of the slow test, and its decoding the edit.
func isCoded(t *testing.T, what string, e api.Edit) {
	t.Helper()
	isEncoded(t, what, e, slowBytes(e), api.OK)
}

// P14.4: the bytes of a whole edit.
func TestEncodeBytes(t *testing.T) {
	e := api.Edit{
		Log: 1, Next: 300, Seq: 1 << 14,
		Gone:  []api.Gone{from(0, 2), from(3, 128)},
		Added: []api.Placed{at(1, api.Meta{Number: 129, Size: 200, Rows: 5, First: "a", Last: "bc", Least: 6, Greatest: 127})},
	}
	want := "\x01\xac\x02\x80\x80\x01" + "\x02" + "\x00\x02" + "\x03\x80\x01" +
		"\x01" + "\x01\x81\x01\xc8\x01\x05" + "\x01a" + "\x02bc" + "\x06\x7f"
	isEncoded(t, "a whole edit", e, want, api.OK)
	e.Added = append(e.Added, at(3, api.Meta{Number: 4, Size: 1, Rows: 1 << 18, First: "\x00", Last: "\xff\x00", Least: 1, Greatest: 1 << 55}))
	want = "\x01\xac\x02\x80\x80\x01" + "\x02" + "\x00\x02" + "\x03\x80\x01" +
		"\x02" + "\x01\x81\x01\xc8\x01\x05" + "\x01a" + "\x02bc" + "\x06\x7f" + "\x03\x04\x01\x80\x80\x10" + "\x01\x00" + "\x02\xff\x00" + "\x01\x80\x80\x80\x80\x80\x80\x80\x40"
	isEncoded(t, "two tables", e, want, api.OK)
}

// P14.4: any Log, Next and Seq can be encoded, as can any Number of Gone, listed twice, too.
func TestEncodeAnyNumbers(t *testing.T) {
	for _, n := range numbersBy(mostNext, mostSeq) {
		isCoded(t, "Log", api.Edit{Log: n})
		isCoded(t, "Next", api.Edit{Next: n})
		isCoded(t, "Seq", api.Edit{Seq: n})
		for level := range 4 {
			isCoded(t, "Gone", goes(from(level, n)))
			isCoded(t, "Gone twice", goes(from(level, n), from(0, 1), from(level, n)))
		}
	}
	same := at(2, table(5, "a", "b"))
	isCoded(t, "a table twice", adds(same, same))
	isCoded(t, "tables in any order that overlap", adds(at(1, table(8, "m", "z")), at(1, table(2, "a", "z")), at(0, table(9, "k", "l"))))
	isCoded(t, "gone and added", both(from(1, 5), at(1, table(5, "a", "b"))))
}

// P14.4: levels are 0 to 3.
func TestEncodeLevels(t *testing.T) {
	for level := range 4 {
		isCoded(t, "Gone", goes(from(level, 9)))
		isCoded(t, "Added", adds(at(level, table(9, "a", "b"))))
	}
	good := at(1, table(4, "a", "b"))
	for _, level := range noLevels {
		for _, e := range []api.Edit{
			goes(from(level, 9)), goes(from(0, 9), from(level, 9)), goes(from(level, 9), from(3, 9)), both(from(level, 9), good),
			adds(at(level, table(9, "a", "b"))), adds(good, at(level, table(9, "a", "b"))), adds(at(level, table(9, "a", "b")), good), both(from(2, 2), at(level, table(9, "a", "b"))),
		} {
			isEncoded(t, fmt.Sprint("level ", level), e, "", api.ErrArg)
		}
	}
}

// listOf has so many elements in each list.
func listOf(gone, added int) api.Edit {
	e := api.Edit{Next: 5}
	for i := range gone {
		e.Gone = append(e.Gone, from(i%4, uint64(i)))
	}
	for i, m := range manyTables(added, 1) {
		e.Added = append(e.Added, at(i%4, m))
	}
	return e
}

// P14.4: each list has at most 256 elements; ErrArg comes first.
func TestEncodeMany(t *testing.T) {
	for _, n := range []int{0, 1, 2, 127, 128, 129, 255, 256, 257, 258, 300, 511, 512, 513, 1000} {
		for _, m := range []int{0, 1, 256, 257} {
			for _, e := range []api.Edit{listOf(n, m), listOf(m, n)} {
				if n <= 256 && m <= 256 {
					isCoded(t, "few elements", e)
					continue
				}
				what := fmt.Sprint(len(e.Gone), " gone, ", len(e.Added), " added")
				isEncoded(t, what, e, "", api.ErrLong)
				off := e
				off.Gone = append(off.Gone, from(4, 1))
				isEncoded(t, what+" and a level that is none", off, "", api.ErrArg)
				off = e
				off.Added = append(off.Added, at(0, api.Meta{}))
				isEncoded(t, what+" and metadata that are not valid", off, "", api.ErrArg)
				off.Added = append([]api.Placed{at(-1, table(3, "a", "b"))}, e.Added...)
				isEncoded(t, what+" and a first level that is none", off, "", api.ErrArg)
			}
		}
	}
}

// someEdits are edits of each kind.
func someEdits() []api.Edit {
	return []api.Edit{
		{}, {Log: 1, Next: 2, Seq: 3}, {Log: math.MaxUint64, Next: math.MaxUint64, Seq: math.MaxUint64},
		goes(from(0, 1)), goes(from(3, 128), from(2, math.MaxUint64), from(1, 0)),
		adds(at(0, table(1, "a", "a"))), adds(at(3, table(mostNumber, fill(130, 'k'), fill(200, 'l')))),
		{Log: 300, Seq: 7, Gone: []api.Gone{from(1, 4), from(1, 5)}, Added: []api.Placed{at(2, table(6, "\x00", "\x01")), at(0, table(7, "b", "c"))}},
		edit.Whole(four()),
	}
}

// P14.4: what is no encoding is told by ErrForm: each start of one, and one with bytes behind it.
func TestDecodePrefixes(t *testing.T) {
	for _, e := range someEdits() {
		s, _ := edit.Encode(e)
		for n := range len(s) {
			isNoEdit(t, "a start", s[:n])
		}
		for b := range 256 {
			isNoEdit(t, "a byte behind", s+string([]byte{byte(b)}))
			isNoEdit(t, "bytes behind", s+string([]byte{byte(b)})+s)
		}
		isNoEdit(t, "twice", s+s)
	}
}

// P14.4: each byte changed to each other one is either the encoding of another edit or none.
func TestDecodeChanges(t *testing.T) {
	refused, decoded := 0, 0
	for _, e := range someEdits() {
		s, _ := edit.Encode(e)
		for i := range s {
			for b := range 256 {
				changed := s[:i] + string([]byte{byte(b)}) + s[i+1:]
				if isSlowDecode(t, changed) == api.OK {
					decoded++
				} else {
					refused++
				}
				isSlowDecode(t, s[:i]+string([]byte{byte(b)})+s[i:])
			}
			isSlowDecode(t, s[:i]+s[i+1:])
		}
	}
	if decoded < 1000 || refused < 1000 {
		t.Errorf("%d decoded, %d refused", decoded, refused)
	}
}

// P14.4: all strings of up to two bytes, and all of a few bytes that matter, up to seven.
func TestDecodeAll(t *testing.T) {
	for a := range 256 {
		isSlowDecode(t, string([]byte{byte(a)}))
		for b := range 256 {
			isSlowDecode(t, string([]byte{byte(a), byte(b)}))
		}
	}
	for _, bytes := range []string{"\x00\x01\x80", "\x00\x03\x04\xff"} {
		all := []string{""}
		for at := 0; len(all[at]) < 7; at++ {
			for i := range bytes {
				all = append(all, all[at]+bytes[i:i+1])
			}
		}
		for _, s := range all {
			isSlowDecode(t, s)
		}
	}
}

// P14.4: numbers that are not in their shortest form, or too great for their place.
func TestDecodeForms(t *testing.T) {
	isNoEdit(t, "a long 0", "\x80\x00\x00\x00\x00\x00")
	isNoEdit(t, "a long 1", "\x81\x00\x00\x00\x00\x00")
	isNoEdit(t, "a number above 2^64", "\xff\xff\xff\xff\xff\xff\xff\xff\xff\x02\x00\x00\x00\x00")
	isNoEdit(t, "no end of a number", fill(100, 0xff))
	isNoEdit(t, "a long count of Gone", "\x00\x00\x00\x80\x00\x00")
	isNoEdit(t, "a long count of Added", "\x00\x00\x00\x00\x80\x00")
	isNoEdit(t, "a long level", "\x00\x00\x00\x01\x81\x00\x02\x00")
	isNoEdit(t, "a long Number", "\x00\x00\x00\x01\x01\x82\x00\x00")
	isNoEdit(t, "level 4", "\x00\x00\x00\x01\x04\x02\x00")
	isNoEdit(t, "level 2^32 + 1", "\x00\x00\x00\x01\x81\x80\x80\x80\x10\x02\x00")
	isNoEdit(t, "level 2^64 - 1", "\x00\x00\x00\x01\xff\xff\xff\xff\xff\xff\xff\xff\xff\x01\x02\x00")
	isNoEdit(t, "level 2^63", "\x00\x00\x00\x01\x80\x80\x80\x80\x80\x80\x80\x80\x80\x01\x02\x00")
	isNoEdit(t, "257 of Gone", "\x00\x00\x00\x81\x02"+fill(2*257, 1)+"\x00")
	isNoEdit(t, "2^32 of Gone", "\x00\x00\x00\x80\x80\x80\x80\x10\x00")
	isNoEdit(t, "2^64 - 1 of Gone", "\x00\x00\x00\xff\xff\xff\xff\xff\xff\xff\xff\xff\x01\x00")
	isNoEdit(t, "2^64 - 1 of Added", "\x00\x00\x00\x00\xff\xff\xff\xff\xff\xff\xff\xff\xff\x01")
	isNoEdit(t, "2^63 of Added", "\x00\x00\x00\x00\x80\x80\x80\x80\x80\x80\x80\x80\x80\x01")
	head := "\x00\x00\x00\x00\x01\x01"
	isEncoded(t, "a table", adds(at(1, api.Meta{Number: 1, Size: 1, Rows: 1, First: "a", Last: "a", Least: 1, Greatest: 1})), head+"\x01\x01\x01\x01a\x01a\x01\x01", api.OK)
	for _, s := range []string{
		"\x00\x01\x01\x01a\x01a\x01\x01", "\x01\x00\x01\x01a\x01a\x01\x01", "\x01\x01\x00\x01a\x01a\x01\x01",
		"\x01\x01\x01\x00\x01a\x01\x01", "\x01\x01\x01\x01a\x00\x01\x01", "\x01\x01\x01\x01b\x01a\x01\x01", "\x01\x01\x01\x01a\x01a\x00\x01", "\x01\x01\x01\x01a\x01a\x02\x01",
		"\x01\x81\x80\x10\x01\x01a\x01a\x01\x01", "\x01\x01\x81\x80\x10\x01a\x01a\x01\x01",
		"\x01\x01\x01\x81\x00a\x01a\x01\x01", "\x01\x01\x01\x01a\x81\x00a\x01\x01",
		"\x01\x81\x80\x80\x80\x80\x80\x80\x80\x80\x01\x01\x01a\x01a\x01\x01",
		"\x01\x01\x01\x89\x04" + fill(521, 'a') + "\x01b\x01\x01", "\x01\x01\x01\x01a\x89\x04" + fill(521, 'a') + "\x01\x01",
		"\x01\x01\x01\x01a\xff\xff\xff\xff\xff\xff\xff\xff\xff\x01a\x01\x01",
	} {
		isNoEdit(t, "metadata that are not valid", head+s)
	}
	longest := adds(at(1, api.Meta{Number: mostNumber, Size: mostSize, Rows: mostSize, First: fill(520, 'a'), Last: fill(520, 'b'), Least: mostSeq, Greatest: mostSeq}))
	isEncoded(t, "the longest table", longest, head+"\xfe\xc1\xd7\x2f\x80\x80\x10\x80\x80\x10\x88\x04"+fill(520, 'a')+"\x88\x04"+fill(520, 'b')+"\xff\xff\xff\xff\xff\xff\xff\x7f\xff\xff\xff\xff\xff\xff\xff\x7f", api.OK)
}

// P14.6: different edits have different encodings: two edits that differ in one thing, whatever it is.
func TestEncodingsDiffer(t *testing.T) {
	base := api.Edit{Log: 1, Next: 1, Seq: 1, Gone: []api.Gone{from(1, 1), from(1, 1)}, Added: []api.Placed{at(1, table(1, "aa", "ab")), at(1, table(1, "aa", "ab"))}}
	all := []api.Edit{{}, base}
	add := func(change func(e *api.Edit)) {
		e := base
		e.Gone, e.Added = slices.Clone(e.Gone), slices.Clone(e.Added)
		change(&e)
		all = append(all, e)
	}
	add(func(e *api.Edit) { e.Log = 2 })
	add(func(e *api.Edit) { e.Next = 2 })
	add(func(e *api.Edit) { e.Seq = 2 })
	add(func(e *api.Edit) { e.Gone = e.Gone[:1] })
	add(func(e *api.Edit) { e.Added = e.Added[:1] })
	add(func(e *api.Edit) { e.Gone = append(e.Gone, from(0, 0)) })
	for i := range 2 {
		add(func(e *api.Edit) { e.Gone[i].Level = 2 })
		add(func(e *api.Edit) { e.Gone[i].Number = 2 })
		add(func(e *api.Edit) { e.Added[i].Level = 2 })
		add(func(e *api.Edit) { e.Added[i].Table.Number = 2 })
		add(func(e *api.Edit) { e.Added[i].Table.Size = 2 })
		add(func(e *api.Edit) { e.Added[i].Table.Rows = 2 })
		add(func(e *api.Edit) { e.Added[i].Table.First = "a" })
		add(func(e *api.Edit) { e.Added[i].Table.Last = "b" })
		add(func(e *api.Edit) { e.Added[i].Table.Least = 2 })
		add(func(e *api.Edit) { e.Added[i].Table.Greatest = 7 })
	}
	seen := map[string]int{}
	for i, e := range all {
		s, failure := edit.Encode(e)
		if failure != api.OK {
			t.Fatal(toldEdit(e), failure)
		}
		if other, ok := seen[s]; ok {
			t.Errorf("%s and %s have the same encoding", toldEdit(all[other]), toldEdit(e))
		}
		seen[s] = i
		isCoded(t, "an edit", e)
	}
}
