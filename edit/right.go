package edit

import "freshet/api"

// greatest is the greatest number of a segment of the log, and the greatest Next; the Number of a table is below it.
const greatest = 99999999

// level is a level of a version, with what its checks need to know of the version.
type level struct {
	tables []api.Meta
	// byNumber is set if the order of the tables is that of their Numbers.
	byNumber  bool
	next, seq uint64
	// numbers are those that have occurred, on this level or on one above.
	numbers map[uint64]struct{}
}

// Right reports whether v is valid.
func Right(v api.Version) bool {
	right := isNumber(v.Log) && isNumber(v.Next) && v.Seq < api.MaxSeq
	// That there are few tables is checked first, so that no more of them are looked at.
	checks := []func(level) bool{level.isShort, level.isOfValid, level.isOfPast, level.isOfNew, level.isInOrder}
	numbers := map[uint64]struct{}{}
levels:
	for i, tables := range v.Levels {
		l := level{tables: tables, byNumber: i == 0, next: v.Next, seq: v.Seq, numbers: numbers}
		for _, is := range checks {
			if !is(l) {
				right = false
				break levels
			}
		}
	}
	return right
}

// isShort reports whether there are not too many tables.
func (l level) isShort() bool { return len(l.tables) <= api.MaxTables }

// isOfValid reports whether all tables have valid metadata.
func (l level) isOfValid() bool {
	for _, m := range l.tables {
		if !isValid(m) {
			return false
		}
	}
	return true
}

// isOfPast reports whether the tables have Numbers and rows that the version has come to.
func (l level) isOfPast() bool {
	for _, m := range l.tables {
		if m.Number >= l.next || m.Greatest > l.seq {
			return false
		}
	}
	return true
}

// isOfNew reports whether the Numbers of the tables have not occurred, which they have from then on.
func (l level) isOfNew() bool {
	for _, m := range l.tables {
		if _, ok := l.numbers[m.Number]; ok {
			return false
		}
		l.numbers[m.Number] = struct{}{}
	}
	return true
}

// isInOrder reports whether the tables are in the order of their level, and do not overlap where they may not.
func (l level) isInOrder() bool {
	for i := 1; i < len(l.tables); i++ {
		a, b := l.tables[i-1], l.tables[i]
		if l.byNumber && a.Number >= b.Number || !l.byNumber && a.Last >= b.First {
			return false
		}
	}
	return true
}

// isLevel reports whether there is a level with that number.
func isLevel(i int) bool { return i >= 0 && i < api.MaxLevels }

// isNumber reports whether n can be the Log or the Next of a version.
func isNumber(n uint64) bool { return n >= 1 && n <= greatest }

// isValid reports whether the metadata are valid.
func isValid(m api.Meta) bool {
	return isNumber(m.Number) && m.Number < greatest &&
		m.Size >= 1 && m.Size <= api.MaxTable &&
		m.Rows >= 1 && m.Rows <= api.MaxTable &&
		isKey(m.First) && isKey(m.Last) && m.First <= m.Last &&
		m.Least >= 1 && m.Least <= m.Greatest && m.Greatest < api.MaxSeq
}

// isKey reports whether the key has a length that a key may have.
func isKey(key string) bool { return key != "" && len(key) <= api.MaxKey }
