package batch

import (
	"freshet/api"
	"freshet/code"
)

// kind is how the writes of one kind are decoded.
type kind struct {
	// decode reads the write at the start of s, which is behind the byte of its kind; size is how many bytes it has there.
	decode func(s string) (w api.Write, size int, e api.Errno)
}

// kindOf returns what there is of the kind with this number.
func kindOf(number byte) kind {
	kinds := [...]kind{
		{decodeNone},
		api.WritePut:    {decodePut},
		api.WriteDelete: {decodeDelete},
	}
	if int(number) >= len(kinds) {
		number = 0
	}
	return kinds[number]
}

// decodeNone stands for the numbers that no kind has.
func decodeNone(string) (w api.Write, size int, e api.Errno) {
	return api.Write{}, 0, api.ErrForm
}

// decodePut reads a key and a value.
func decodePut(s string) (w api.Write, size int, e api.Errno) {
	key, keySize, e := code.Field(s, api.MaxKey)
	if e != api.OK {
		return api.Write{}, 0, e
	}
	value, valueSize, e := code.Field(s[keySize:], api.MaxValue)
	if e != api.OK {
		return api.Write{}, 0, e
	}
	return api.Write{Kind: api.WritePut, Key: key, Value: value}, keySize + valueSize, api.OK
}

// decodeDelete reads a key.
func decodeDelete(s string) (w api.Write, size int, e api.Errno) {
	key, size, e := code.Field(s, api.MaxKey)
	if e != api.OK {
		return api.Write{}, 0, e
	}
	return api.Write{Kind: api.WriteDelete, Key: key}, size, api.OK
}

// decodeHead reads what is ahead of the writes: Seq, and how many writes there are; rest is what follows. The number of writes is bounded here, so that a great one doesn't make a long list.
func decodeHead(s string) (seq, many uint64, rest string, e api.Errno) {
	seq, seqSize, e := code.Uint(s)
	if e != api.OK {
		return 0, 0, "", e
	}
	many, manySize, e := code.Uint(s[seqSize:])
	if e != api.OK {
		return 0, 0, "", e
	}
	if many > api.MaxWrites {
		return 0, 0, "", api.ErrLong
	}
	return seq, many, s[seqSize+manySize:], api.OK
}
