package disk

import (
	"maps"
	"slices"

	"freshet/api"
)

// file is referred to by the directory, by the durable one and by pending changes: what is done to its bytes holds in all of them.
type file struct {
	bytes []byte
	// sure is how many of the first bytes are durable.
	sure int
}

// size returns how many bytes a file has; none if there is no file.
func (f *file) size() int {
	if f == nil {
		return 0
	}
	return len(f.bytes)
}

// keep leaves the first n bytes to a file, all of them durable.
func (f *file) keep(n int) {
	f.bytes, f.sure = f.bytes[:n], n
}

// directory maps names to files.
type directory map[string]*file

// change takes the name from out of a directory, and then gives the name to to a file. No file's name is empty: an empty one stands for nothing to take out, or to give.
type change struct {
	from, to string
	file     *file
}

// has returns ErrNone if there is no such name.
func (m directory) has(name string) api.Errno {
	if m[name] == nil {
		return api.ErrNone
	}
	return api.OK
}

// do does a change.
func (m directory) do(c change) {
	delete(m, c.from)
	if c.to != "" {
		m[c.to] = c.file
	}
}

// sorted returns the names in ascending order.
func (m directory) sorted() []string {
	return slices.Sorted(maps.Keys(m))
}

// with returns a directory of the same names, with the twins of the files.
func (m directory) with(twin func(f *file) *file) directory {
	c := directory{}
	for name, f := range m {
		c[name] = twin(f)
	}
	return c
}

// twins returns a function that returns a file's copy, the same one each time: a file that is referred to from several places is one file in a copy of the disk, too.
func twins() func(f *file) *file {
	made := map[*file]*file{}
	return func(f *file) *file {
		if f != nil && made[f] == nil {
			made[f] = &file{slices.Clone(f.bytes), f.sure}
		}
		return made[f]
	}
}
