package pick

import (
	"cmp"
	"slices"
	"strings"

	"freshet/api"
	"freshet/edit"
)

// mostNumber is the greatest Number of a table; the least one is 1.
const mostNumber = 99999998

// due returns the lowest level at which a compaction is due, and the tables of that level that are merged; these are none if no compaction is due.
func due(v api.Version, o api.PickOptions) (level int, in []api.Meta) {
	most := o.Base
search:
	for i, tables := range v.Levels[:levels] {
		switch {
		case i == 0 && len(tables) >= o.Many:
			level, in = i, tables
			break search
		case i > 0 && edit.Size(v, i) > most:
			level, in = i, oldest(tables)
			break search
		case i > 0:
			most *= o.Times
		}
	}
	return level, in
}

// oldest returns the table with the lowest Number, of one at least.
func oldest(tables []api.Meta) []api.Meta {
	byNumber := func(a, b api.Meta) int { return cmp.Compare(a.Number, b.Number) }
	return []api.Meta{slices.MinFunc(tables, byNumber)}
}

// spanOf returns the span of tables, one at least, as that of a single table.
func spanOf(tables []api.Meta) api.Meta {
	span := tables[0]
	for _, m := range tables[1:] {
		span.First, span.Last = min(span.First, m.First), max(span.Last, m.Last)
	}
	return span
}

// overlapping returns those tables that overlap the span.
func overlapping(tables []api.Meta, span api.Meta) []api.Meta {
	return selected(tables, func(m api.Meta) bool { return Overlap(m, span) })
}

// selected returns those items that the function wants, in their order, in a new list.
func selected[T any](l []T, wants func(T) bool) []T {
	var some []T
	for _, x := range l {
		if wants(x) {
			some = append(some, x)
		}
	}
	return some
}

// isOf reports whether the tables of c are those of its levels, and no Number stands in it twice.
func isOf(v api.Version, c api.Compact) bool {
	numbers := map[uint64]struct{}{}
	for i, tables := range [][]api.Meta{c.In, c.Over} {
		for _, m := range tables {
			if _, ok := numbers[m.Number]; ok || !slices.Contains(v.Levels[c.Level+i], m) {
				return false
			}
			numbers[m.Number] = struct{}{}
		}
	}
	return true
}

// isWithin reports whether the tables of out have Numbers that tables can have, and lie within the span of the others; if there are no others, there is no span that a table could lie in.
func isWithin(out, others []api.Meta) bool {
	if len(others) == 0 {
		return len(out) == 0
	}
	span := spanOf(others)
	for _, m := range out {
		if m.Number < 1 || m.Number > mostNumber || m.First < span.First || m.Last > span.Last {
			return false
		}
	}
	return true
}

// isLevel reports whether a compaction can be of that level.
func isLevel(level int) bool { return level >= 0 && level < levels }

// copied returns the tables in a new list, with strings in memory of their own.
func copied(tables []api.Meta) []api.Meta {
	l := slices.Clone(tables)
	for i, m := range l {
		l[i].First, l[i].Last = strings.Clone(m.First), strings.Clone(m.Last)
	}
	return l
}
