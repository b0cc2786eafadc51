package edit_test

import (
	"fmt"
	"slices"
	"strings"
	"testing"
	"unsafe"

	"freshet/api"
	"freshet/edit"
)

// overlap reports whether two strings share memory.
func overlap(a, b string) bool {
	if a == "" || b == "" {
		return false
	}
	p, q := uintptr(unsafe.Pointer(unsafe.StringData(a))), uintptr(unsafe.Pointer(unsafe.StringData(b)))
	return p < q+uintptr(len(b)) && q < p+uintptr(len(a))
}

// The rules that hold everywhere: a result is new memory, and shares none with an argument, with another result, or within itself.
func TestNewMemory(t *testing.T) {
	text := strings.Clone("keys of a table, and of others")
	v := versionOf(at(0, table(1, text[:4], text[:5])), at(0, table(2, text[:4], text)), at(1, table(3, text[:4], text[:4])), at(2, table(4, text[:5], text[:9])), at(3, table(5, text, text)))
	e := api.Edit{Gone: []api.Gone{from(0, 2)}, Added: []api.Placed{at(0, table(9, text, text)), at(1, table(2, text[5:], text[5:])), at(2, table(8, text[:3], text[:3]))}}
	s, failure := edit.Encode(e)
	if failure != api.OK {
		t.Fatal(failure)
	}
	seen := []string{text, s}
	take := func(tables []api.Placed, want int) {
		if len(tables) != want {
			t.Errorf("%s, want %d", toldTables(tables), want)
		}
		for _, p := range tables {
			seen = append(seen, p.Table.First, p.Table.Last)
		}
	}
	for range 2 {
		after, _ := edit.Apply(v, e)
		take(placed(after), 7)
		for i := range after.Levels {
			_ = append(after.Levels[i], table(77, "x", "y"))
			for j := range after.Levels[i] {
				after.Levels[i][j] = api.Meta{}
			}
		}
		after, _ = edit.Apply(v, api.Edit{})
		take(placed(after), 5)
		after.Levels[0][0] = api.Meta{}
		whole := edit.Whole(v)
		take(whole.Added, 5)
		decoded, _ := edit.Decode(s)
		take(decoded.Added, 3)
		again, _ := edit.Encode(e)
		seen = append(seen, again)
	}
	for i, a := range seen {
		for _, b := range seen[i+1:] {
			if overlap(a, b) {
				t.Fatalf("%q and %q share memory", a, b)
			}
		}
	}
	if len(placed(v)) != 5 || !edit.Right(v) {
		t.Errorf("%s: the argument changed", told(v))
	}
}

// The rules that hold everywhere: arguments are not changed, nor is what lies behind their length.
func TestArgumentsUnchanged(t *testing.T) {
	for seed := range uint64(300) {
		random := source(seed)
		v := someVersion(random, random.IntN(20))
		e := someEdit(random, v)
		random.Shuffle(len(e.Added), func(i, j int) { e.Added[i], e.Added[j] = e.Added[j], e.Added[i] })
		// Each list is the start of a longer one.
		var behind, old [][]api.Meta
		for i := range v.Levels {
			l := append(slices.Clone(v.Levels[i]), table(901, "x", "y"), table(902, "y", "z"), table(903, "z", "zz"))
			behind, old = append(behind, l), append(old, slices.Clone(l))
			v.Levels[i] = l[:len(l)-3]
		}
		gone := append(slices.Clone(e.Gone), from(1, 901), from(2, 902))
		added := append(slices.Clone(e.Added), at(1, table(904, "r", "s")), at(0, table(905, "t", "u")))
		oldGone, oldAdded := slices.Clone(gone), slices.Clone(added)
		e.Gone, e.Added = gone[:len(gone)-2], added[:len(added)-2]
		edit.Right(v)
		edit.Same(v, v)
		edit.Size(v, 1)
		edit.Apply(v, e)
		edit.Apply(v, adds(e.Added...))
		edit.Whole(v)
		edit.Encode(e)
		for i := range behind {
			if !slices.Equal(behind[i], old[i]) {
				t.Fatalf("seed %d: level %d changed", seed, i)
			}
		}
		if !slices.Equal(gone, oldGone) || !slices.Equal(added, oldAdded) {
			t.Fatalf("seed %d: the edit changed", seed)
		}
	}
}

// The rules that hold everywhere: no result depends on an argument's memory afterwards.
func TestNothingKept(t *testing.T) {
	key := []byte("bcd")
	text := unsafe.String(&key[0], 3)
	v, e := versionOf(at(1, table(1, text, text))), adds(at(2, table(2, text, text)))
	s, _ := edit.Encode(e)
	code := []byte(s)
	after, _ := edit.Apply(v, e)
	whole := edit.Whole(v)
	decoded, _ := edit.Decode(unsafe.String(&code[0], len(code)))
	key[0], v.Levels[1][0].Size, e.Added[0].Table.Rows = 'x', 7, 7
	for i := range code {
		code[i] = 'y'
	}
	one, two := at(1, table(1, "bcd", "bcd")), at(2, table(2, "bcd", "bcd"))
	if want := versionOf(one, two); !sameVersion(after, want) {
		t.Errorf("%s, want %s", told(after), told(want))
	}
	if want := (api.Edit{Log: 7, Next: 1000, Seq: 5000, Added: []api.Placed{one}}); !sameEdit(whole, want) {
		t.Errorf("%s, want %s", toldEdit(whole), toldEdit(want))
	}
	if !sameEdit(decoded, adds(two)) {
		t.Errorf("%s, want %s", toldEdit(decoded), toldEdit(adds(two)))
	}
}

// The rules that hold everywhere: an empty list and a nil one mean the same.
func TestEmptyLists(t *testing.T) {
	v := edit.First()
	for i := range v.Levels {
		v.Levels[i] = []api.Meta{}
	}
	e := api.Edit{Gone: []api.Gone{}, Added: []api.Placed{}}
	isRight(t, "empty levels", v, true)
	isApplied(t, "empty lists", v, e, edit.First(), api.OK)
	isEncoded(t, "empty lists", e, "\x00\x00\x00\x00\x00", api.OK)
	if !edit.Same(v, edit.First()) {
		t.Error("empty levels are not the same as none")
	}
}

// P2: the same calls return the same again.
func TestSameAgain(t *testing.T) {
	random := source(2)
	v := someVersion(random, 60)
	e := next(v.Next + 9)
	for i := range 5 {
		e.Added = append(e.Added, at(0, table(v.Next+uint64(8-i), "a", "b")))
		e.Added[i].Table.Greatest = v.Seq
	}
	after, failure := edit.Apply(v, e)
	if failure != api.OK {
		t.Fatal(failure)
	}
	s, _ := edit.Encode(e)
	for range 20 {
		isApplied(t, "again", v, e, after, api.OK)
		isEncoded(t, "again", e, s, api.OK)
		isRight(t, "again", after, true)
	}
}

// P1: calls end, whatever they are passed: many tables, long keys, long strings.
func TestMany(t *testing.T) {
	v := open()
	for i := range 4 {
		v.Levels[i] = manyTables(100000, uint64(1+i*100000))
	}
	if edit.Right(v) || !edit.Same(v, v) || edit.Size(v, 3) != 100*100000 || !sameEdit(edit.Whole(v), api.Edit{}) {
		t.Error("many tables: a wrong answer")
	}
	var gone []api.Gone
	var added []api.Placed
	for i, p := range placed(v) {
		gone, added = append(gone, from(p.Level, p.Table.Number)), append(added, at(i%4, p.Table))
	}
	slices.Reverse(added)
	for _, x := range []struct {
		v    api.Version
		e    api.Edit
		want api.Errno
	}{
		{v, api.Edit{}, api.ErrArg}, {open(), adds(added...), api.ErrState}, {full(), goes(gone...), api.ErrNone}, {open(), adds(slices.Concat(added, added)...), api.ErrThere},
		{open(), goes(slices.Repeat([]api.Gone{from(0, 1)}, 1000000)...), api.ErrNone}, {full(), goes(slices.Repeat([]api.Gone{from(0, 4000)}, 1000000)...), api.ErrNone},
		{open(), adds(slices.Repeat(added[:1], 1000000)...), api.ErrThere},
	} {
		if got, failure := edit.Apply(x.v, x.e); !sameVersion(got, api.Version{}) || failure != x.want {
			t.Errorf("Apply of many: %s, %v, want %v", told(got), failure, x.want)
		}
		if len(x.e.Gone)+len(x.e.Added) == 0 {
			continue
		}
		if s, failure := edit.Encode(x.e); s != "" || failure != api.ErrLong {
			t.Errorf("Encode of many: %d bytes, %v", len(s), failure)
		}
	}
	long := strings.Repeat("k", 1<<22)
	isMeta(t, "a long key", table(7, "a", long), false)
	isMeta(t, "two long keys", table(7, long, long), false)
	for _, s := range []string{long, strings.Repeat("\x00", 1<<22), strings.Repeat("\x01", 1<<22), strings.Repeat("\xff", 1<<22)} {
		isNoEdit(t, "a long string", s)
	}
}

// P14.4: as many elements as there may be, each as long as it may be, are encoded and decoded.
func TestLongestEdit(t *testing.T) {
	var e api.Edit
	for i := range 256 {
		e.Gone = append(e.Gone, from(3, 1<<63+uint64(i)))
		m := api.Meta{Number: mostNumber, Size: 1 << 18, Rows: 1 << 18, First: fill(520, 'a'), Last: fill(520, 'b'), Least: 1, Greatest: mostSeq}
		e.Added = append(e.Added, at(3, m))
	}
	isCoded(t, "the longest edit", e)
	if s, _ := edit.Encode(e); len(s) != 3+2+2+256*(1+10)+256*(1+4+3+3+2*522+1+8) {
		t.Errorf("%d bytes", len(s))
	}
}

// P14.4: the fields of what is decoded are not those of what was decoded before.
func TestDecodeAgain(t *testing.T) {
	for _, e := range someEdits() {
		s, _ := edit.Encode(e)
		a, _ := edit.Decode(s)
		for i := range a.Gone {
			a.Gone[i] = api.Gone{}
		}
		for i := range a.Added {
			a.Added[i] = api.Placed{}
		}
		if b, failure := edit.Decode(s); !sameEdit(b, e) || failure != api.OK {
			t.Errorf("%s: %v", fmt.Sprint(toldEdit(b)), failure)
		}
	}
}
