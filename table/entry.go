package table

import (
	"freshet/api"
	"freshet/code"
)

// mostRows is how many rows a data block has at most.
const mostRows = 1024

// entry is what the index says of a data block: its first key, the place of its last row, and how many rows there are.
type entry struct {
	first, last string
	seq         uint64
	rows        int
}

// entryOf returns what the index says of the data block with these rows.
func entryOf(rows []api.Row) entry {
	if len(rows) == 0 {
		return entry{}
	}
	last := rows[len(rows)-1]
	return entry{first: rows[0].Key, last: last.Key, seq: last.Seq, rows: len(rows)}
}

// row returns the row of the index for a data block whose frame starts at from.
func (says entry) row(from int) api.Row {
	value := code.PutField(says.first) + code.PutUint(uint64(from)) + code.PutUint(uint64(says.rows))
	return api.Row{Key: says.last, Seq: says.seq, Kind: api.WritePut, Value: value}
}

// readEntry returns what a row of the index says of a data block, and where its frame starts.
func readEntry(r api.Row) (says entry, from uint64, ok bool) {
	// A delete has no Value, which is no field.
	first, size, e := code.Field(r.Value, api.MaxKey)
	if e != api.OK {
		return entry{}, 0, false
	}
	rest := r.Value[size:]
	from, size, e = code.Uint(rest)
	if e != api.OK {
		return entry{}, 0, false
	}
	rest = rest[size:]
	rows, size, e := code.Uint(rest)
	if e != api.OK || size < len(rest) || rows < 1 || rows > mostRows {
		return entry{}, 0, false
	}
	return entry{first: first, last: r.Key, seq: r.Seq, rows: int(rows)}, from, true
}
