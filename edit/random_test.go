package edit_test

import (
	"fmt"
	"math/rand/v2"
	"slices"
	"testing"

	"freshet/api"
	"freshet/edit"
)

// keysOf are few keys, so that tables are likely to overlap.
var keysOf = []string{"\x00", "a", "a\x00", "aa", "b", "c", "d", "e", "e\xff", "f", "k", "l", "m", "x", "\x80", "\xff"}

// someTable returns a table with a Number below next, and a Greatest of at most seq.
func someTable(random *rand.Rand, next, seq uint64) api.Meta {
	from := random.IntN(len(keysOf))
	to := min(from+random.IntN(3), len(keysOf)-1)
	greatest := 1 + random.Uint64N(max(seq, 1))
	return api.Meta{
		Number: 1 + random.Uint64N(max(next, 2)-1), Size: 1 + random.IntN(1<<18), Rows: 1 + random.IntN(1000),
		First: keysOf[from], Last: keysOf[to], Least: 1 + random.Uint64N(greatest), Greatest: greatest,
	}
}

// someVersion returns a valid version: what edits with one table each make of numbers.
func someVersion(random *rand.Rand, tables int) api.Version {
	v := api.Version{Log: 1 + random.Uint64N(9), Next: 1 + random.Uint64N(40), Seq: random.Uint64N(50)}
	for range tables {
		if after, failure := slowApply(v, adds(at(random.IntN(4), someTable(random, v.Next, v.Seq)))); failure == api.OK {
			v = after
		}
	}
	return v
}

// someEdit returns an edit that v is likely to accept: it names tables that are there, and adds others.
func someEdit(random *rand.Rand, v api.Version) api.Edit {
	var e api.Edit
	if random.IntN(3) == 0 {
		e.Log = v.Log + random.Uint64N(3)
	}
	if random.IntN(2) == 0 {
		e.Next = v.Next + random.Uint64N(8)
	}
	if random.IntN(2) == 0 {
		e.Seq = v.Seq + random.Uint64N(8)
	}
	for _, p := range placed(v) {
		if random.IntN(4) == 0 {
			e.Gone = append(e.Gone, from(p.Level, p.Table.Number))
		}
	}
	random.Shuffle(len(e.Gone), func(i, j int) { e.Gone[i], e.Gone[j] = e.Gone[j], e.Gone[i] })
	for range random.IntN(4) {
		e.Added = append(e.Added, at(random.IntN(4), someTable(random, max(v.Next, e.Next), max(v.Seq, e.Seq))))
	}
	return e
}

// spoil changes one thing of an edit.
func spoil(random *rand.Rand, v api.Version, e *api.Edit) {
	switch random.IntN(9) {
	case 0:
		e.Log = v.Log - 1
	case 1:
		e.Next = v.Next - random.Uint64N(2)
	case 2:
		e.Seq = v.Seq - random.Uint64N(2)
	case 3:
		e.Gone = append(e.Gone, from(random.IntN(6)-1, random.Uint64N(20)))
	case 4:
		e.Gone = slices.Concat(e.Gone, e.Gone)
	case 5:
		e.Added = append(e.Added, at(random.IntN(6)-1, someTable(random, v.Next, v.Seq)))
	case 6:
		e.Added = slices.Concat(e.Added, e.Added)
	default:
		if len(e.Added) > 0 {
			m := &e.Added[random.IntN(len(e.Added))].Table
			changes := []func(){
				func() { m.Number = random.Uint64N(99) }, func() { m.Size = 0 }, func() { m.Rows = -1 }, func() { m.First, m.Last = m.Last, m.First },
				func() { m.First = "" }, func() { m.Last = m.Last[:0] }, func() { m.Least = 0 }, func() { m.Greatest++ },
			}
			changes[random.IntN(len(changes))]()
		}
	}
}

// P14.1 to P14.3, P14.5: chains of random edits, held against what the chapter says of them; each version is valid.
func TestHeldAgainstSlow(t *testing.T) {
	counts := map[api.Errno]int{}
	for seed := range uint64(300) {
		random := source(seed)
		v := someVersion(random, random.IntN(20))
		for range 40 {
			e := someEdit(random, v)
			for range random.IntN(3) {
				spoil(random, v, &e)
			}
			after, failure := isSlowApply(t, v, e)
			counts[failure]++
			if failure != api.OK {
				continue
			}
			v = after
			isRight(t, fmt.Sprint("seed ", seed), v, true)
			isApplied(t, fmt.Sprint("seed ", seed), edit.First(), edit.Whole(v), v, api.OK)
		}
	}
	for _, failure := range []api.Errno{api.OK, api.ErrArg, api.ErrNone, api.ErrThere, api.ErrState} {
		if counts[failure] < 300 {
			t.Errorf("%v: %d of %v", failure, counts[failure], counts)
		}
	}
}

// P14.1: random tables, in any order, on levels: Right answers what the slow one does.
func TestAnyVersions(t *testing.T) {
	right := 0
	for seed := range uint64(20000) {
		random := source(seed)
		v := api.Version{Log: 1, Next: 8 + random.Uint64N(10), Seq: 5 + random.Uint64N(8)}
		for range random.IntN(6) {
			i := random.IntN(4)
			v.Levels[i] = append(v.Levels[i], someTable(random, 12, 8))
		}
		if slowRight(v) {
			right++
		}
		isRight(t, fmt.Sprint("seed ", seed), v, slowRight(v))
	}
	if right < 2000 || right > 18000 {
		t.Errorf("%d are valid", right)
	}
}

// smallTables are those with one of three Numbers and these keys, on one of these levels.
func smallTables(levels ...int) []api.Placed {
	var l []api.Placed
	for _, level := range levels {
		for n := range uint64(3) {
			for _, keys := range [][2]string{{"a", "a"}, {"a", "b"}, {"b", "b"}} {
				l = append(l, at(level, table(n+1, keys[0], keys[1])))
			}
		}
	}
	return l
}

// P14.1: all versions of up to three small tables.
func TestAllSmallVersions(t *testing.T) {
	all := smallTables(0, 1, 3)
	for _, next := range []uint64{2, 3, 4} {
		for _, a := range all {
			for _, b := range all {
				v := versionOf(a, b)
				v.Next = next
				isRight(t, "two tables", v, slowRight(v))
				for _, c := range all {
					v := versionOf(a, b, c)
					v.Next = next
					if edit.Right(v) != slowRight(v) {
						t.Fatalf("Right of %s: %v", told(v), edit.Right(v))
					}
				}
			}
		}
	}
}

// P14.2, P14.7: all edits that take up to one table from valid versions of up to two, and add up to two.
func TestAllSmallEdits(t *testing.T) {
	all := smallTables(0, 2)
	versions := []api.Version{versionOf()}
	for _, a := range all {
		versions = append(versions, versionOf(a))
		for _, b := range all {
			versions = append(versions, versionOf(a, b))
		}
	}
	versions = slices.DeleteFunc(versions, func(v api.Version) bool { return !slowRight(v) })
	edits := []api.Edit{{}}
	for _, a := range all {
		edits = append(edits, adds(a))
		for _, b := range all {
			edits = append(edits, adds(a, b))
		}
	}
	for _, v := range versions {
		for _, e := range edits {
			for gone := range 7 {
				e.Gone = nil
				if gone > 0 {
					e.Gone = []api.Gone{from(gone/4*2, uint64(gone%3+1))}
				}
				after, failure := isSlowApply(t, v, e)
				if failure == api.OK && gone == 0 {
					isApplied(t, "the inverse", after, inverse(e), v, api.OK)
				}
			}
		}
	}
}

// P14.7: the tables are restored by an edit whose Gone lists, in any order, those that were added.
func TestInverse(t *testing.T) {
	done := 0
	for seed := range uint64(2000) {
		random := source(seed)
		v := someVersion(random, random.IntN(20))
		e := someEdit(random, v)
		e.Gone = nil
		after, failure := edit.Apply(v, e)
		if failure != api.OK || len(e.Added) == 0 {
			continue
		}
		done++
		back := inverse(e)
		random.Shuffle(len(back.Gone), func(i, j int) { back.Gone[i], back.Gone[j] = back.Gone[j], back.Gone[i] })
		want := after
		want.Levels = v.Levels
		isApplied(t, fmt.Sprint("seed ", seed), after, back, want, api.OK)
	}
	if done < 300 {
		t.Errorf("only %d edits were done", done)
	}
}

// P14.2: neither the order of Gone nor that of Added changes the result.
func TestAnyOrder(t *testing.T) {
	for seed := range uint64(1000) {
		random := source(seed)
		v := someVersion(random, random.IntN(20))
		e := someEdit(random, v)
		want, wantE := edit.Apply(v, e)
		for range 4 {
			random.Shuffle(len(e.Gone), func(i, j int) { e.Gone[i], e.Gone[j] = e.Gone[j], e.Gone[i] })
			random.Shuffle(len(e.Added), func(i, j int) { e.Added[i], e.Added[j] = e.Added[j], e.Added[i] })
			isApplied(t, fmt.Sprint("seed ", seed), v, e, want, wantE)
		}
	}
}

// P14.4, P14.6: random edits are encoded and decoded; strings that come of changes are decoded as the slow one does.
func TestCodeHeldAgainstSlow(t *testing.T) {
	refused, decoded := 0, 0
	for seed := range uint64(3000) {
		random := source(seed)
		v := someVersion(random, random.IntN(20))
		e := someEdit(random, v)
		for range random.IntN(3) {
			spoil(random, v, &e)
		}
		want, wantE := slowEncode(e)
		isEncoded(t, fmt.Sprint("seed ", seed), e, want, wantE)
		b := []byte(slowBytes(e))
		for range 10 {
			switch i := random.IntN(len(b)); random.IntN(4) {
			case 0:
				b[i] ^= 1 << random.IntN(8)
			case 1:
				b = slices.Insert(b, i, byte(random.IntN(256)))
			case 2:
				b = slices.Delete(b, i, i+1)
			case 3:
				b[i] = byte(random.IntN(5))
			}
			if isSlowDecode(t, string(b)) == api.OK {
				decoded++
			} else {
				refused++
			}
			if len(b) == 0 {
				break
			}
		}
	}
	if decoded < 300 || refused < 3000 {
		t.Errorf("%d decoded, %d refused", decoded, refused)
	}
}

// P14.6: what is decoded is encoded as it was.
func TestDecodedAgain(t *testing.T) {
	done := 0
	for seed := range uint64(200000) {
		random := source(seed)
		b := make([]byte, 5+random.IntN(4))
		for i := range b {
			b[i] = byte(random.IntN(4))
		}
		e, failure := edit.Decode(string(b))
		if failure != api.OK {
			continue
		}
		done++
		if s, failure := edit.Encode(e); s != string(b) || failure != api.OK {
			t.Fatalf("% x is decoded to %s, which is encoded as % x, %v", b, toldEdit(e), s, failure)
		}
	}
	if done < 1000 {
		t.Errorf("only %d were decoded", done)
	}
}
