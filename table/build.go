package table

import (
	"iter"
	"slices"
	"sort"
	"strings"

	"freshet/api"
	"freshet/block"
	"freshet/bloom"
	"freshet/frame"
)

// What the options may be.
const (
	leastBlock  = 64
	mostBlock   = 16384
	mostRestart = 64
	mostBits    = 32
)

// indexRestart is the restart interval of the index.
const indexRestart = 1

// Build returns the table of l.
func Build(l []api.Row, o api.TableOptions) (string, api.Errno) {
	if isArg(l, o) {
		return "", api.ErrArg
	}
	data, entries, e := dataBlocks(l, o)
	if e != api.OK {
		return "", e
	}
	filter, e := framed(bloom.Make(keysOf(l), o.Bits))
	if e != api.OK {
		return "", e
	}
	index, e := framed(block.Build(entries, indexRestart))
	if e != api.OK {
		return "", e
	}
	s := data + filter + index + footer(uint64(len(data)), uint64(len(data)+len(filter)))
	if len(s) > api.MaxTable {
		return "", api.ErrLong
	}
	return s, api.OK
}

// isArg reports whether the options may not be, or the rows are not in order, or one is not valid for another reason than a length.
func isArg(l []api.Row, o api.TableOptions) bool {
	switch {
	case o.Block < leastBlock || o.Block > mostBlock:
		return true
	case o.Restart < 1 || o.Restart > mostRestart:
		return true
	case o.Bits < 1 || o.Bits > mostBits:
		return true
	case !block.Order(l):
		return true
	}
	return slices.ContainsFunc(l, func(r api.Row) bool { return block.Check(r) == api.ErrArg })
}

// dataBlocks returns the frames of the data blocks, one behind another, and the rows of the index for them.
func dataBlocks(l []api.Row, o api.TableOptions) (data string, entries []api.Row, e api.Errno) {
	fit := func(rows []api.Row) bool {
		s, e := block.Build(rows, o.Restart)
		return e == api.OK && len(s) <= o.Block
	}
	var s strings.Builder
	for rows := range parts(l, fit) {
		f, e := framed(block.Build(rows, o.Restart))
		// A row that is too long is in no block.
		if e != api.OK {
			return "", nil, e
		}
		entries = append(entries, entryOf(rows).row(s.Len()))
		s.WriteString(f)
		// However many rows are left, the table is too long already.
		if s.Len() > api.MaxTable {
			return "", nil, api.ErrLong
		}
	}
	return s.String(), entries, api.OK
}

// parts goes over the rows of one data block after another: of the rows that are left as many as fit, but at least one.
func parts(l []api.Row, fit func([]api.Row) bool) iter.Seq[[]api.Row] {
	return func(yield func([]api.Row) bool) {
		for rest := l; len(rest) > 0; {
			n := most(rest, fit)
			if !yield(rest[:n]) {
				return
			}
			rest = rest[n:]
		}
	}
}

// most returns how many rows fit, from the first one on, and at least 1. If some rows fit, fewer of them do, too.
func most(l []api.Row, fit func([]api.Row) bool) int {
	// Few rows are tried first, as the greatest number is often far below all rows.
	few, many := 1, 2
	for many <= len(l) && fit(l[:many]) {
		few, many = many, 2*many
	}
	many = min(many, len(l)+1)
	return few + sort.Search(many-few-1, func(i int) bool { return !fit(l[:few+1+i]) })
}

// keysOf returns the rows' Keys, each once.
func keysOf(l []api.Row) []string {
	var keys []string
	for i, r := range l {
		if i == 0 || r.Key != l[i-1].Key {
			keys = append(keys, r.Key)
		}
	}
	return keys
}

// framed returns the frame of p, if there is no error yet.
func framed(p string, e api.Errno) (string, api.Errno) {
	if e != api.OK {
		return "", e
	}
	return frame.Put(p)
}
