package edit_test

import (
	"fmt"
	"math"
	"slices"
	"strings"
	"testing"

	"freshet/api"
	"freshet/edit"
)

// P14.1 to P14.4: the chapter's examples.
func TestExamples(t *testing.T) {
	isEncoded(t, "the empty edit", api.Edit{}, "\x00\x00\x00\x00\x00", api.OK)
	isEncoded(t, "Next 3, Gone 1 2", api.Edit{Next: 3, Gone: []api.Gone{from(1, 2)}}, "\x00\x03\x00\x01\x01\x02\x00", api.OK)
	isNoEdit(t, "empty", "")
	isNoEdit(t, "a byte behind", "\x00\x00\x00\x00\x00\x00")
	first := edit.First()
	isRefused(t, "Gone 0 1", first, goes(from(0, 1)), api.ErrNone)
	isRefused(t, "Added 4 ..", first, adds(at(4, table(1, "a", "b"))), api.ErrArg)
	isApplied(t, "Seq 5", first, api.Edit{Next: 1, Seq: 5}, api.Version{Log: 1, Next: 1, Seq: 5}, api.OK)
	isRefused(t, "a table of the number 1", first, adds(at(0, api.Meta{Number: 1, Size: 1, Rows: 1, First: "a", Last: "a", Least: 1, Greatest: 1})), api.ErrState)
}

// P14.1: the first version has Log 1, Next 1, Seq 0 and no tables, and is valid.
func TestFirst(t *testing.T) {
	for range 3 {
		v := edit.First()
		if v.Log != 1 || v.Next != 1 || v.Seq != 0 || len(placed(v)) != 0 {
			t.Errorf("First: %s", told(v))
		}
		isRight(t, "the first version", v, true)
		// What is done to it doesn't change the next one.
		v.Levels[0] = append(v.Levels[0], table(1, "a", "b"))
		v.Next = 9
	}
	isRight(t, "the zero version", api.Version{}, false)
}

// P14.1: Log, Next and Seq at their edges, with tables and without any.
func TestRightNumbers(t *testing.T) {
	for _, n := range numbersBy(mostNumber, mostNext, mostSeq) {
		isNumber := n >= 1 && n <= 99999999
		isRight(t, "Log", api.Version{Log: n, Next: 1}, isNumber)
		isRight(t, "Next", api.Version{Log: 1, Next: n}, isNumber)
		isRight(t, "Log and Next", api.Version{Log: n, Next: n, Seq: 3}, isNumber)
		isRight(t, "Seq", api.Version{Log: 1, Next: 1, Seq: n}, n < 1<<56)
		v := four()
		v.Log = n
		isRight(t, "Log of tables", v, isNumber)
		v = four()
		v.Next = n
		isRight(t, "Next of tables", v, isNumber && n > 17)
		v = four()
		v.Seq = n
		isRight(t, "Seq of tables", v, n >= 2 && n < 1<<56)
	}
}

// open has no tables, and numbers that leave room for any.
func open() api.Version { return api.Version{Log: 1, Next: mostNext, Seq: mostSeq} }

// among has m between other tables of that level, in order.
func among(i int, m api.Meta) api.Version {
	v := open()
	v.Levels[i] = []api.Meta{table(1000001, "\x00", "\x00"), m, table(1000002, "\xfe", "\xff")}
	slices.SortFunc(v.Levels[i], func(a, b api.Meta) int {
		if i == 0 {
			return int(min(a.Number, 1<<40)) - int(min(b.Number, 1<<40))
		}
		return strings.Compare(a.First, b.First)
	})
	return v
}

// isMeta tests whether metadata are valid: alone on each level and between other tables, in Right, Apply, Encode and Decode.
func isMeta(t *testing.T, what string, m api.Meta, want bool) {
	t.Helper()
	for i := range 4 {
		alone := open()
		alone.Levels[i] = []api.Meta{m}
		isRight(t, what, alone, want)
		isRight(t, what+", between others", among(i, m), want)
		if want {
			isApplied(t, what, open(), adds(at(i, m)), alone, api.OK)
			isEncoded(t, what, adds(at(i, m)), slowBytes(adds(at(i, m))), api.OK)
			continue
		}
		good := at(i, table(7, "a", "b"))
		for _, e := range []api.Edit{adds(at(i, m)), adds(good, at(i, m)), adds(at(i, m), good)} {
			isRefused(t, what, open(), e, api.ErrArg)
			isEncoded(t, what, e, "", api.ErrArg)
		}
	}
}

// P14.1, P14.2, P14.4: each number of the metadata at its edges.
func TestMetaNumbers(t *testing.T) {
	for _, n := range numbersBy(mostNumber, mostNext, mostSeq, mostSize) {
		m := table(n, "a", "b")
		isMeta(t, fmt.Sprint("Number ", n), m, n >= 1 && n <= 99999998)
		m = table(7, "a", "b")
		m.Size = int(n)
		isMeta(t, fmt.Sprint("Size ", m.Size), m, n >= 1 && n <= 1<<18)
		m = table(7, "a", "b")
		m.Rows = int(n)
		isMeta(t, fmt.Sprint("Rows ", m.Rows), m, n >= 1 && n <= 1<<18)
		for _, other := range []uint64{0, 1, 2, 1000, mostSeq - 1, mostSeq, mostSeq + 1, math.MaxUint64, n - 1, n, n + 1} {
			m = table(7, "a", "b")
			m.Least, m.Greatest = n, other
			isMeta(t, fmt.Sprint("Least ", n, ", Greatest ", other), m, 1 <= n && n <= other && other < 1<<56)
			m.Least, m.Greatest = other, n
			isMeta(t, fmt.Sprint("Least ", other, ", Greatest ", n), m, 1 <= other && other <= n && n < 1<<56)
		}
	}
	isMeta(t, "no metadata", api.Meta{}, false)
}

// P14.1, P14.2, P14.4: lengths of the metadata's keys, and their order, byte by byte.
func TestMetaKeys(t *testing.T) {
	for _, n := range []int{0, 1, 2, 64, 127, 128, 519, 520, 521, 522, 1032, 1040, 2048, 1 << 16, 1<<16 + 1} {
		is := n >= 1 && n <= 520
		isMeta(t, fmt.Sprint("First of ", n), table(7, fill(n, 'k'), "l"), is)
		isMeta(t, fmt.Sprint("Last of ", n), table(7, "\x01", fill(n, 'k')), is)
		isMeta(t, fmt.Sprint("First and Last of ", n), table(7, fill(n, 'k'), fill(n, 'k')), is)
	}
	keys := []string{"\x01", "\x01\x00", "\x01\x01", "A", "a", "a\x00", "a\x00\x00", "a\x01", "aa", "ab", "b", "b\xff", "\x7f", "\x80", "\xc3\xa9", "\xfd"}
	for i, first := range keys {
		for j, last := range keys {
			isMeta(t, fmt.Sprintf("%q to %q", first, last), table(7, first, last), i <= j)
		}
	}
}

// P14.1: each level has at most 64 tables, whatever the others have.
func TestRightMany(t *testing.T) {
	for _, n := range []int{0, 1, 2, 63, 64, 65, 66, 128, 256, 1000} {
		for i := range 4 {
			v := open()
			v.Levels[i] = manyTables(n, 1)
			isRight(t, fmt.Sprint(n, " tables of level ", i), v, n <= 64)
		}
		v := open()
		for i := range 4 {
			v.Levels[i] = manyTables(n, uint64(1+i*n))
		}
		isRight(t, fmt.Sprint(n, " tables of each level"), v, n <= 64)
	}
}

// P14.1: no Number stands twice, on one level or on two.
func TestRightNumberTwice(t *testing.T) {
	for i := range 4 {
		for j := range 4 {
			for _, n := range []int{2, 3, 8} {
				v := open()
				v.Levels[i] = manyTables(n, 100)
				if i != j {
					v.Levels[j] = manyTables(n, 200)
				}
				isRight(t, "no Number twice", v, true)
				v.Levels[j][n-1].Number = 100
				isRight(t, fmt.Sprint("100 on levels ", i, " and ", j), v, false)
				v.Levels[j][n-1].Number = 250
				isRight(t, "no Number twice again", v, true)
			}
		}
	}
	same := table(5, "a", "b")
	isRight(t, "a table twice", versionOf(at(0, same), at(0, same)), false)
	isRight(t, "a table twice, of two levels", versionOf(at(1, same), at(2, same)), false)
}

// P14.1: on level 0 the Numbers ascend, whatever the keys are; on the others the keys do, whatever the Numbers are.
func TestRightOrder(t *testing.T) {
	three := []api.Meta{table(4, "a", "c"), table(8, "d", "f"), table(6, "g", "k")}
	for i := range 4 {
		for _, order := range [][]int{{0, 1, 2}, {0, 2, 1}, {1, 0, 2}, {1, 2, 0}, {2, 0, 1}, {2, 1, 0}} {
			v := open()
			for _, at := range order {
				v.Levels[i] = append(v.Levels[i], three[at])
			}
			want := []int{0, 1, 2}
			if i == 0 {
				want = []int{0, 2, 1}
			}
			isRight(t, fmt.Sprint("the order ", order, " of level ", i), v, slices.Equal(order, want))
		}
	}
	isRight(t, "all four levels", four(), true)
}

// P14.1: where tables may not overlap, the Last of one is less than the First of the next one, byte by byte.
func TestRightOverlap(t *testing.T) {
	keys := []string{"\x00", "A", "a", "a\x00", "aa", "b", "\x7f", "\x80", "\xff", "\xff\xff"}
	for i := range 4 {
		for p, last := range keys {
			for q, first := range keys {
				one, two := at(i, table(1, "\x00", last)), at(i, table(2, first, "\xff\xff"))
				isRight(t, fmt.Sprintf("%q ahead of %q of level %d", last, first, i), versionOf(one, two), i == 0 || p < q)
				isRight(t, "the same behind another table", versionOf(one, two, at(i, table(3, "\xff\xff\xff", "\xff\xff\xff"))), i == 0 || p < q)
			}
		}
	}
	within := []api.Placed{at(1, table(1, "a", "k")), at(1, table(2, "c", "d"))}
	isRight(t, "one within the other", versionOf(within...), false)
	isRight(t, "the same table by its keys", versionOf(at(2, table(1, "a", "a")), at(2, table(2, "a", "a"))), false)
	isRight(t, "of two levels they may overlap", versionOf(at(1, table(1, "a", "k")), at(2, table(2, "c", "d")), at(3, table(3, "a", "k"))), true)
}

// P14.1: the tables have Numbers below Next, and a Greatest of at most Seq, wherever they stand.
func TestRightNextAndSeq(t *testing.T) {
	for i := range 4 {
		for _, n := range []int{1, 2, 5} {
			for which := range n {
				v := api.Version{Log: 1, Next: 100, Seq: 50}
				v.Levels[i] = manyTables(n, 10)
				if i == 0 {
					which = n - 1
				}
				m := &v.Levels[i][which]
				for _, number := range []uint64{98, 99, 100, 101, mostNumber} {
					m.Number = number
					isRight(t, fmt.Sprint("Number ", number), v, number < 100)
				}
				m.Number = 99
				for _, seq := range []uint64{49, 50, 51, 52, mostSeq} {
					m.Greatest = seq
					isRight(t, fmt.Sprint("Greatest ", seq), v, seq <= 50)
				}
			}
		}
	}
}

// isSame tests that Same answers that, from both sides.
func isSame(t *testing.T, what string, a, b api.Version, want bool) {
	t.Helper()
	if edit.Same(a, b) != want || edit.Same(b, a) != want {
		t.Errorf("%s: Same of %s, %s: %v, %v", what, told(a), told(b), edit.Same(a, b), edit.Same(b, a))
	}
}

// P14.1: versions are the same if all their fields are, whether they are valid or not.
func TestSame(t *testing.T) {
	changes := []func(m *api.Meta){
		func(m *api.Meta) { m.Number ^= 1 << 63 }, func(m *api.Meta) { m.Size++ }, func(m *api.Meta) { m.Rows-- },
		func(m *api.Meta) { m.First += "\x00" }, func(m *api.Meta) { m.Last = "" }, func(m *api.Meta) { m.Least++ }, func(m *api.Meta) { m.Greatest = 0 },
	}
	isSame(t, "the first version", edit.First(), edit.First(), true)
	isSame(t, "zero versions", api.Version{}, api.Version{}, true)
	isSame(t, "four levels", four(), four(), true)
	for i := range 4 {
		for which := range four().Levels[i] {
			for _, change := range changes {
				a, b := four(), four()
				change(&a.Levels[i][which])
				isSame(t, "a change", a, b, false)
				change(&b.Levels[i][which])
				isSame(t, "the same change", a, b, true)
			}
			less := four()
			less.Levels[i] = slices.Delete(less.Levels[i], which, which+1)
			isSame(t, "one less", four(), less, false)
		}
		a, b := four(), four()
		a.Levels[i] = append(a.Levels[i], api.Meta{})
		isSame(t, "a zero table more", a, b, false)
		a, b = versionOf(), versionOf()
		a.Levels[i] = []api.Meta{}
		isSame(t, "an empty list", a, b, true)
		a.Levels[i], b.Levels[3-i] = []api.Meta{table(1, "", "")}, []api.Meta{table(1, "", "")}
		isSame(t, "on one level or another", a, b, i == 3-i)
		slices.Reverse(b.Levels[1])
		b = four()
		slices.Reverse(b.Levels[i])
		isSame(t, "in another order", four(), b, len(b.Levels[i]) == 1)
	}
	for _, change := range []func(v *api.Version){
		func(v *api.Version) { v.Log++ }, func(v *api.Version) { v.Next-- }, func(v *api.Version) { v.Seq ^= 1 << 63 },
		func(v *api.Version) { v.Log = 0 }, func(v *api.Version) { v.Next = 0 }, func(v *api.Version) { v.Seq = 0 },
		func(v *api.Version) { v.Log, v.Next = v.Next, v.Log }, func(v *api.Version) { v.Next, v.Seq = v.Seq, v.Next },
	} {
		a, b := four(), four()
		change(&a)
		isSame(t, "another number", a, b, false)
		change(&b)
		isSame(t, "the same numbers", a, b, true)
	}
}

// P14.1: the Size of a level is the sum of those of its tables; there is none of a level that isn't there.
func TestSize(t *testing.T) {
	sized := func(sizes ...int) []api.Meta {
		var l []api.Meta
		for _, n := range sizes {
			l = append(l, api.Meta{Size: n})
		}
		return l
	}
	v := api.Version{Levels: [4][]api.Meta{sized(1), sized(20, 300), sized(), sized(4000, 50000, 1<<18)}}
	for _, x := range []struct{ level, want int }{
		{0, 1}, {1, 320}, {2, 0}, {3, 54000 + 1<<18}, {4, 0}, {5, 0}, {-1, 0}, {-2, 0}, {64, 0}, {1 << 32, 0}, {1<<32 + 1, 0}, {math.MaxInt, 0}, {math.MinInt, 0}, {math.MinInt + 1, 0},
	} {
		if got := edit.Size(v, x.level); got != x.want {
			t.Errorf("Size of level %d: %d, want %d", x.level, got, x.want)
		}
		if got := edit.Size(edit.First(), x.level); got != 0 {
			t.Errorf("Size of level %d of the first version: %d", x.level, got)
		}
	}
	for i := range 4 {
		for _, x := range []struct {
			sizes []int
			want  int
		}{
			{[]int{-5}, -5}, {[]int{-5, 3}, -2}, {[]int{0, 0}, 0}, {[]int{math.MaxInt, 1}, math.MinInt}, {[]int{math.MinInt, -1}, math.MaxInt},
			{[]int{math.MinInt, math.MinInt}, 0}, {[]int{math.MaxInt, math.MaxInt, 7}, 5}, {slices.Repeat([]int{1 << 62}, 5), 1 << 62}, {slices.Repeat([]int{3}, 1000), 3000},
		} {
			v := api.Version{}
			v.Levels[i] = sized(x.sizes...)
			v.Levels[3-i] = append(v.Levels[3-i], sized()...)
			if got := edit.Size(v, i); got != x.want {
				t.Errorf("Size of level %d of %d: %d, want %d", i, x.sizes, got, x.want)
			}
			if got := edit.Size(v, (i+1)%4); got != 0 {
				t.Errorf("Size of an empty level: %d", got)
			}
		}
	}
}
