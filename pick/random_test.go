package pick_test

import (
	"fmt"
	"math/rand/v2"
	"slices"
	"strings"
	"testing"

	"freshet/api"
	"freshet/edit"
	"freshet/pick"
)

// keysOf are few keys, so that tables are likely to overlap.
var keysOf = []string{"\x00", "a", "a\x00", "aa", "b", "c", "d", "e", "e\xff", "f", "k", "l", "m", "x", "\x80", "\xff"}

// someTable returns a table with a Number below next, and a Greatest of at most seq.
func someTable(random *rand.Rand, next, seq uint64) api.Meta {
	first := random.IntN(len(keysOf))
	last := min(first+random.IntN(3), len(keysOf)-1)
	greatest := 1 + random.Uint64N(seq)
	return api.Meta{
		Number: 1 + random.Uint64N(next-1), Size: 1 + random.IntN(100), Rows: 1 + random.IntN(1000),
		First: keysOf[first], Last: keysOf[last], Least: 1 + random.Uint64N(greatest), Greatest: greatest,
	}
}

// someVersion returns a valid version of at most so many tables.
func someVersion(random *rand.Rand, tables int) api.Version {
	v := api.Version{Log: 1 + random.Uint64N(9), Next: 2 + random.Uint64N(40), Seq: 1 + random.Uint64N(50)}
	for range tables {
		p := api.Placed{Level: random.IntN(4), Table: someTable(random, v.Next, v.Seq)}
		if after, failure := edit.Apply(v, api.Edit{Added: []api.Placed{p}}); failure == api.OK {
			v = after
		}
	}
	return v
}

// someOptions returns valid options, by which a compaction of any level, or none, is likely to be due.
func someOptions(random *rand.Rand) api.PickOptions {
	return api.PickOptions{Many: 1 + random.IntN(6), Base: 1 + random.IntN(200), Times: 1 + random.IntN(3)}
}

// someCompact returns a compaction that may not be one of v: some tables of a level, and some of the next one.
func someCompact(random *rand.Rand, v api.Version) api.Compact {
	c := api.Compact{Level: random.IntN(3)}
	for _, m := range v.Levels[c.Level] {
		if random.IntN(2) == 0 {
			c.In = append(c.In, m)
		}
	}
	for _, m := range v.Levels[c.Level+1] {
		if random.IntN(2) == 0 {
			c.Over = append(c.Over, m)
		}
	}
	random.Shuffle(len(c.In), func(i, j int) { c.In[i], c.In[j] = c.In[j], c.In[i] })
	random.Shuffle(len(c.Over), func(i, j int) { c.Over[i], c.Over[j] = c.Over[j], c.Over[i] })
	return c
}

// spoil changes one thing of a compaction.
func spoil(random *rand.Rand, v api.Version, c *api.Compact) {
	l := &c.In
	if random.IntN(2) == 0 {
		l = &c.Over
	}
	switch random.IntN(6) {
	case 0:
		c.Level = random.IntN(6) - 1
	case 1:
		c.In, c.Over = c.Over, c.In
	case 2:
		*l = slices.Concat(*l, *l)
	case 3:
		*l = append(slices.Clone(*l), someTable(random, v.Next, v.Seq))
	default:
		if len(*l) > 0 {
			*l = slices.Clone(*l)
			(*l)[random.IntN(len(*l))] = changed((*l)[0])[random.IntN(9)]
		}
	}
}

// someOut returns tables that are likely to lie within the span of a compaction.
func someOut(random *rand.Rand, v api.Version, c api.Compact) []api.Meta {
	var out []api.Meta
	for range random.IntN(4) {
		m := someTable(random, v.Next+9, v.Seq)
		if all := slices.Concat(c.In, c.Over); len(all) > 0 && random.IntN(4) > 0 {
			first, last := slowSpan(all...)
			m.First, m.Last = max(first, min(m.First, last)), max(first, min(m.Last, last))
		}
		if random.IntN(20) == 0 {
			m.Number = []uint64{0, mostNumber, mostNext}[random.IntN(3)]
		}
		out = append(out, m)
	}
	return out
}

// P16.1 to P16.4: random versions, options, compactions and tables, held against what the chapter says of them.
func TestHeldAgainstSlow(t *testing.T) {
	picked, failures, bottoms := map[int]int{}, map[api.Errno]int{}, map[bool]int{}
	for seed := range uint64(20000) {
		random := source(seed)
		what := fmt.Sprint("seed ", seed)
		v, o := someVersion(random, random.IntN(20)), someOptions(random)
		want, wantE := slowPick(v, o)
		isPicked(t, what, v, o, want, wantE)
		if wantE != api.OK {
			want.Level = 3
		}
		picked[want.Level]++
		c := someCompact(random, v)
		if wantE == api.OK && random.IntN(2) == 0 {
			c = want
		}
		for range random.IntN(3) {
			if random.IntN(2) == 0 {
				spoil(random, v, &c)
			}
		}
		isDeep, failure := slowBottom(v, c)
		isBottom(t, what, v, c, isDeep, failure)
		bottoms[isDeep]++
		for range 3 {
			out := someOut(random, v, c)
			e, failure := slowEdit(v, c, out)
			isEdit(t, what, v, c, out, e, failure)
			failures[failure]++
		}
	}
	for level := range 4 {
		if picked[level] < 1000 {
			t.Errorf("level %d: %d of %v", level, picked[level], picked)
		}
	}
	for _, failure := range []api.Errno{api.OK, api.ErrArg, api.ErrState} {
		if failures[failure] < 1000 {
			t.Errorf("%v: %d of %v", failure, failures[failure], failures)
		}
	}
	if bottoms[true] < 1000 || bottoms[false] < 1000 {
		t.Errorf("Bottom: %v", bottoms)
	}
}

// parted returns tables with valid metadata that lie in order within a span, and have Numbers from next on, in any order.
func parted(random *rand.Rand, first, last string, next, seq uint64) []api.Meta {
	keys := []string{first}
	for _, key := range keysOf {
		if key > first && key < last && random.IntN(2) == 0 {
			keys = append(keys, key)
		}
	}
	if last > first {
		keys = append(keys, last)
	}
	var out []api.Meta
	for i := 0; i < len(keys); i++ {
		m := someTable(random, next+1, seq)
		m.First, m.Last = keys[i], keys[i]
		if random.IntN(2) == 0 && i+1 < len(keys) {
			i++
			m.Last = keys[i]
		}
		if random.IntN(4) > 0 {
			out = append(out, m)
		}
	}
	for i, n := range random.Perm(len(out)) {
		out[i].Number = next + uint64(n+random.IntN(2)*len(out))
	}
	return out
}

// isCompacted tests what P16.5 says of the version that the edit of a compaction makes.
func isCompacted(t *testing.T, what string, v api.Version, c api.Compact, out []api.Meta) {
	t.Helper()
	e, failure := pick.Edit(v, c, out)
	if failure != api.OK {
		t.Errorf("%s: Edit of %s, %s, %s: %v", what, toldVersion(v), toldCompact(c), told(out), failure)
		return
	}
	after, failure := edit.Apply(v, e)
	if failure != api.OK || !edit.Right(after) {
		t.Errorf("%s: Apply of %s, %s: %v", what, toldVersion(v), toldEdit(e), failure)
		return
	}
	if after.Log != v.Log || after.Seq != v.Seq || after.Next < v.Next {
		t.Errorf("%s: %s becomes %s", what, toldVersion(v), toldVersion(after))
	}
	for level, tables := range v.Levels {
		var want []api.Meta
		for _, m := range tables {
			if level == c.Level && slices.Contains(c.In, m) || level == c.Level+1 && slices.Contains(c.Over, m) {
				continue
			}
			want = append(want, m)
		}
		if level == c.Level+1 {
			want = append(want, out...)
			slices.SortFunc(want, func(a, b api.Meta) int { return strings.Compare(a.First, b.First) })
		}
		if !slices.Equal(after.Levels[level], want) {
			t.Errorf("%s: level %d of %s is %s, want %s", what, level, toldVersion(v), told(after.Levels[level]), told(want))
		}
	}
}

// count returns how many tables a version has.
func count(v api.Version) int {
	n := 0
	for _, tables := range v.Levels {
		n += len(tables)
	}
	return n
}

// P16.5, P16.6: the tables of what is picked are those of the version; its edit takes them away, and what comes instead fits in.
func TestPickedIsApplied(t *testing.T) {
	picked := map[int]int{}
	for seed := range uint64(10000) {
		random := source(seed)
		what := fmt.Sprint("seed ", seed)
		v, o := someVersion(random, random.IntN(30)), someOptions(random)
		c, failure := pick.Pick(v, o)
		if failure != api.OK {
			continue
		}
		picked[c.Level]++
		for i, tables := range [][]api.Meta{c.In, c.Over} {
			for _, m := range tables {
				if !slices.Contains(v.Levels[c.Level+i], m) {
					t.Errorf("%s: %s is not of %s", what, toldCompact(c), toldVersion(v))
				}
			}
		}
		isCompacted(t, what, v, c, nil)
		e, _ := pick.Edit(v, c, nil)
		after, _ := edit.Apply(v, e)
		if len(c.In) == 0 || count(after) != count(v)-len(c.In)-len(c.Over) || count(after) >= count(v) {
			t.Errorf("%s: of %d tables, %d are left by %s", what, count(v), count(after), toldCompact(c))
		}
		first, last := slowSpan(slices.Concat(c.In, c.Over)...)
		for range 3 {
			isCompacted(t, what, v, c, parted(random, first, last, v.Next, v.Seq))
		}
		// Any tables within the span, with any Numbers that are possible.
		out := list(table(1, first, last), table(mostNumber, last, first), api.Meta{Number: 1 + random.Uint64N(mostNumber), First: last, Last: last})
		if _, failure := pick.Edit(v, c, out); failure != api.OK {
			t.Errorf("%s: Edit of %s, %s, %s: %v", what, toldVersion(v), toldCompact(c), told(out), failure)
		}
	}
	for level := range 3 {
		if picked[level] < 300 {
			t.Errorf("level %d: %d of %v", level, picked[level], picked)
		}
	}
}

// P16.5, P16.6: compactions that are picked one after another, each with one table instead, come to an end, and no version is wrong.
func TestPickedOneAfterAnother(t *testing.T) {
	for seed := range uint64(500) {
		random := source(seed)
		v := someVersion(random, 40)
		o := api.PickOptions{Many: 2, Base: 1 + random.IntN(100), Times: 1 + random.IntN(3)}
		tables := count(v)
		for n := 0; ; n++ {
			c, failure := pick.Pick(v, o)
			if failure == api.ErrNone {
				break
			}
			if failure != api.OK || n > 4*tables {
				t.Fatalf("seed %d: compaction %d: %v", seed, n, failure)
			}
			all := slices.Concat(c.In, c.Over)
			m := all[0]
			m.First, m.Last = slowSpan(all...)
			m.Number = v.Next
			for _, other := range all[1:] {
				m.Size += other.Size
			}
			isCompacted(t, fmt.Sprint("seed ", seed), v, c, list(m))
			e, _ := pick.Edit(v, c, list(m))
			if v, failure = edit.Apply(v, e); failure != api.OK {
				t.Fatalf("seed %d: %v", seed, failure)
			}
		}
		if len(v.Levels[0]) >= 2 || edit.Size(v, 1) > o.Base || edit.Size(v, 2) > o.Base*o.Times {
			t.Errorf("seed %d: %s is left by %v", seed, toldVersion(v), o)
		}
	}
}

// P16.7: Overlap is symmetric, and holds for a table and itself; if Bottom is true, no key of a table of In or Over lies in one far below.
func TestOverlapAndBottom(t *testing.T) {
	deep := 0
	for seed := range uint64(10000) {
		random := source(seed)
		v, o := someVersion(random, random.IntN(12)), someOptions(random)
		a, b := someTable(random, v.Next, v.Seq), someTable(random, v.Next, v.Seq)
		if pick.Overlap(a, b) != pick.Overlap(b, a) || !pick.Overlap(a, a) {
			t.Errorf("seed %d: Overlap of %s", seed, told(list(a, b)))
		}
		// Two tables whose keys are few overlap if a key lies in both.
		isBoth := slices.ContainsFunc(keysOf, func(key string) bool {
			return a.First <= key && key <= a.Last && b.First <= key && key <= b.Last
		})
		if pick.Overlap(a, b) != isBoth {
			t.Errorf("seed %d: Overlap of %s: %v", seed, told(list(a, b)), !isBoth)
		}
		c, failure := pick.Pick(v, o)
		if failure != api.OK {
			c = someCompact(random, v)
		}
		isDeep, failure := pick.Bottom(v, c)
		if failure != api.OK {
			t.Errorf("seed %d: Bottom of %s: %v", seed, toldCompact(c), failure)
		}
		if !isDeep {
			continue
		}
		deep++
		for _, m := range slices.Concat(c.In, c.Over) {
			for _, n := range slices.Concat(v.Levels[c.Level+2:]...) {
				if m.Last >= n.First && n.Last >= m.First {
					t.Errorf("seed %d: %s is the bottom of %s", seed, toldCompact(c), toldVersion(v))
				}
			}
		}
	}
	if deep < 1000 || deep > 9000 {
		t.Errorf("%d compactions have nothing below them", deep)
	}
}

// smallTables are those with the Number and few keys.
func smallTables(number uint64) []api.Meta {
	var l []api.Meta
	for i, first := range []string{"a", "b", "c", "d"} {
		for _, last := range []string{"a", "b", "c", "d"}[i:] {
			l = append(l, table(number, first, last))
		}
	}
	return l
}

// P16.2 to P16.5: all small versions of three tables on any levels, with few options.
func TestAllSmallVersions(t *testing.T) {
	done := 0
	for _, a := range smallTables(3) {
		for _, b := range smallTables(1) {
			for _, c := range smallTables(2) {
				for levels := range 64 {
					v := versionOf()
					for i, m := range list(a, b, c) {
						level := levels >> (2 * i) & 3
						v.Levels[level] = append(v.Levels[level], m)
					}
					slices.SortFunc(v.Levels[0], func(a, b api.Meta) int { return int(a.Number) - int(b.Number) })
					for i := range v.Levels[1:] {
						slices.SortFunc(v.Levels[1+i], func(a, b api.Meta) int { return strings.Compare(a.First, b.First) })
					}
					if !edit.Right(v) {
						continue
					}
					done++
					isSmall(t, v)
				}
			}
		}
	}
	if done < 10000 {
		t.Errorf("only %d versions", done)
	}
}

// isSmall tests what is picked from a small version, and what comes of that.
func isSmall(t *testing.T, v api.Version) {
	t.Helper()
	for _, o := range []api.PickOptions{{Many: 1, Base: 100, Times: 1}, {Many: 2, Base: 50, Times: 4}, {Many: 4, Base: 250, Times: 1}} {
		want, wantE := slowPick(v, o)
		c, failure := pick.Pick(v, o)
		if !sameCompact(c, want) || failure != wantE {
			t.Fatalf("Pick of %s, %v: %s, %v, want %s, %v", toldVersion(v), o, toldCompact(c), failure, toldCompact(want), wantE)
		}
		if failure != api.OK {
			continue
		}
		isDeep, _ := slowBottom(v, want)
		isBottom(t, "a small version", v, c, isDeep, api.OK)
		for _, out := range [][]api.Meta{nil, list(table(5, "b", "c")), list(table(2000, "a", "b"), table(4, "c", "d"))} {
			e, failure := slowEdit(v, c, out)
			isEdit(t, "a small version", v, c, out, e, failure)
		}
	}
}
