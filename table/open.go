package table

import (
	"strings"

	"freshet/api"
	"freshet/block"
	"freshet/bloom"
	"freshet/frame"
	"freshet/sum"
)

const (
	// The footer has two offsets and their checksum.
	offsetBytes = 8
	sumBytes    = 4
	footerBytes = 2*offsetBytes + sumBytes
)

// Open returns the table whose bytes s are; it does not read the data blocks.
func Open(s string) (*Table, api.Errno) {
	filterAt, indexAt, ok := offsets(s)
	if !ok {
		return nil, api.ErrCorrupt
	}
	filter, ok := payload(s[filterAt:indexAt])
	if !ok || bloom.Check(filter) != api.OK {
		return nil, api.ErrCorrupt
	}
	index, ok := payload(s[indexAt : len(s)-footerBytes])
	if !ok {
		return nil, api.ErrCorrupt
	}
	entries, e := block.Rows(index)
	if e != api.OK {
		return nil, api.ErrCorrupt
	}
	l, ok := partsOf(entries, strings.Clone(s[:filterAt]))
	if !ok {
		return nil, api.ErrCorrupt
	}
	return &Table{filter: filter, parts: l}, api.OK
}

// offsets returns the offsets that the footer of s has, if they may be.
func offsets(s string) (filterAt, indexAt int, ok bool) {
	footerAt := len(s) - footerBytes
	if footerAt < 0 || len(s) > api.MaxTable {
		return 0, 0, false
	}
	f, i := number(s[footerAt:][:offsetBytes]), number(s[footerAt+offsetBytes:][:offsetBytes])
	if s[footerAt:] != footer(f, i) || f > i || i > uint64(footerAt) {
		return 0, 0, false
	}
	return int(f), int(i), true
}

// footer returns the footer with these offsets.
func footer(filterAt, indexAt uint64) string {
	s := putNumber(filterAt, offsetBytes) + putNumber(indexAt, offsetBytes)
	return s + putNumber(uint64(sum.Of(s)), sumBytes)
}

// payload returns the payload of s, if s is one frame and nothing else.
func payload(s string) (p string, ok bool) {
	p, size, e := frame.Get(s)
	return p, e == api.OK && size == len(s)
}

// partsOf returns the data blocks that stand in data, by the rows of the index for them.
func partsOf(entries []api.Row, data string) ([]part, bool) {
	l := make([]part, len(entries))
	// Each data block ends where the next one starts, so the last one comes first.
	upto := uint64(len(data))
	for i := len(l) - 1; i >= 0; i-- {
		says, from, ok := readEntry(entries[i])
		// Only the bytes of the last one may be none.
		if !ok || from > upto || from == upto && i < len(l)-1 {
			return nil, false
		}
		l[i] = part{bytes: data[from:upto], says: says}
		upto = from
	}
	// Nothing stands ahead of the first one, nor where there is none.
	return l, upto == 0
}

// putNumber returns so many bytes of n, the lowest one first.
func putNumber(n uint64, bytes int) string {
	b := make([]byte, bytes)
	for i := range b {
		b[i] = byte(n)
		n >>= 8
	}
	return string(b)
}

// number returns the number whose bytes s are, the lowest one first.
func number(s string) uint64 {
	n := uint64(0)
	for i := len(s) - 1; i >= 0; i-- {
		n = n<<8 | uint64(s[i])
	}
	return n
}
