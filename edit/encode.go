package edit

import (
	"strings"

	"freshet/api"
	"freshet/code"
)

// mostListed is how many elements each list of an edit may have to be encoded.
const mostListed = 256

// Encode returns the encoding of e.
func Encode(e api.Edit) (string, api.Errno) {
	if !isListed(e) {
		return "", api.ErrArg
	}
	if len(e.Gone) > mostListed || len(e.Added) > mostListed {
		return "", api.ErrLong
	}
	var s strings.Builder
	put := func(numbers ...uint64) {
		for _, n := range numbers {
			s.WriteString(code.PutUint(n))
		}
	}
	put(e.Log, e.Next, e.Seq, uint64(len(e.Gone)))
	for _, g := range e.Gone {
		put(uint64(g.Level), g.Number)
	}
	put(uint64(len(e.Added)))
	for _, p := range e.Added {
		m := p.Table
		put(uint64(p.Level), m.Number, uint64(m.Size), uint64(m.Rows))
		s.WriteString(code.PutField(m.First))
		s.WriteString(code.PutField(m.Last))
		put(m.Least, m.Greatest)
	}
	return s.String(), api.OK
}

// Decode returns the edit whose encoding is s.
func Decode(s string) (api.Edit, api.Errno) {
	r := reader{rest: s}
	e := api.Edit{Log: r.number(), Next: r.number(), Seq: r.number()}
	for range r.upTo(mostListed) {
		e.Gone = append(e.Gone, api.Gone{Level: r.level(), Number: r.number()})
	}
	for range r.upTo(mostListed) {
		e.Added = append(e.Added, api.Placed{Level: r.level(), Table: r.meta()})
	}
	if r.failed || r.rest != "" || !isListed(e) {
		return api.Edit{}, api.ErrForm
	}
	return e, api.OK
}

// reader reads what an edit is encoded as, one after another. From the first that can't be read on, it has failed, and reads zeros.
type reader struct {
	rest   string
	failed bool
}

// advance is told how many bytes were read, or that they were no encoding.
func (r *reader) advance(size int, e api.Errno) {
	if e != api.OK {
		r.failed = true
		size = len(r.rest)
	}
	r.rest = r.rest[size:]
}

// number reads a short number.
func (r *reader) number() uint64 {
	n, size, e := code.Uint(r.rest)
	r.advance(size, e)
	return n
}

// upTo reads a short number that is at most as great as that.
func (r *reader) upTo(most int) int {
	n := r.number()
	if n > uint64(most) {
		r.advance(0, api.ErrLong)
		return 0
	}
	return int(n)
}

// level reads a level.
func (r *reader) level() int { return r.upTo(api.MaxLevels - 1) }

// key reads the field of a key.
func (r *reader) key() string {
	key, size, e := code.Field(r.rest, api.MaxKey)
	r.advance(size, e)
	return key
}

// meta reads the metadata of a table.
func (r *reader) meta() api.Meta {
	return api.Meta{
		Number: r.number(), Size: r.upTo(api.MaxTable), Rows: r.upTo(api.MaxTable),
		First: r.key(), Last: r.key(),
		Least: r.number(), Greatest: r.number(),
	}
}
