package code

import (
	"strings"

	"freshet/api"
)

// cursor reads a string from its start on. A step for which too few bytes are left reads none, and its ok is false.
type cursor struct {
	s  string
	at int
}

// next reads one byte.
func (c *cursor) next() (b byte, ok bool) {
	if c.at == len(c.s) {
		return 0, false
	}
	b = c.s[c.at]
	c.at++
	return b, true
}

// take reads n bytes. They are copied, since an answer shares no memory with an argument.
func (c *cursor) take(n uint64) (t string, ok bool) {
	if n > uint64(len(c.s)-c.at) {
		return "", false
	}
	from := c.at
	c.at += int(n)
	return strings.Clone(c.s[from:c.at]), true
}

// number reads a short number by steps of one byte.
func number(next func() (b byte, ok bool)) (n uint64, e api.Errno) {
	const lastShift = partBits * (mostBytes - 1)
	for shift := 0; ; shift += partBits {
		b, ok := next()
		if !ok {
			e = api.ErrShort
			goto failed
		}
		// A last byte 0 adds nothing, so the encoding would not be the shortest one.
		if b == 0 && shift > 0 || b > 1 && shift == lastShift {
			e = api.ErrForm
			goto failed
		}
		n |= uint64(b&^more) << shift
		if b < more {
			return n, api.OK
		}
	}
failed:
	return 0, e
}
