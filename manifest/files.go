package manifest

import (
	"freshet/api"
	"freshet/code"
	"freshet/disk"
	"freshet/edit"
	"freshet/frame"
	"freshet/names"
)

const (
	// pointer is the name of the file that names the current manifest, and fresh what it is named till it is whole.
	pointer = "current"
	fresh   = "current.new"
	// prefix is what the name of a manifest begins with.
	prefix = "man-"
	// mostNumber is the greatest number of a manifest.
	mostNumber = 99999998
)

// manifestName returns the name of the manifest with that number.
func manifestName(number int) string { return names.Of(prefix, number) }

// manifests returns the numbers of the manifests on a disk, in ascending order, which is that of their names.
func manifests(d *disk.Disk) []int {
	var l []int
	for _, number := range names.Numbers(prefix, d.Names()) {
		if number <= mostNumber {
			l = append(l, number)
		}
	}
	return l
}

// framed returns the frame of the encoding of e.
func framed(e api.Edit) (string, api.Errno) {
	payload, n := edit.Encode(e)
	if n != api.OK {
		return "", n
	}
	return frame.Put(payload)
}

// read returns the manifest that is current on a disk; its number is 0 and its version the first one, if there is none.
func read(d *disk.Disk) (*Manifest, api.Errno) {
	m := &Manifest{disk: d, version: edit.First()}
	bytes, e := d.Read(pointer)
	switch {
	case e == api.ErrNone:
		return m, api.OK
	case e != api.OK:
		return nil, e
	}
	var ok bool
	if m.number, ok = pointed(bytes); !ok {
		return nil, api.ErrCorrupt
	}
	if bytes, e = d.Read(manifestName(m.number)); e != api.OK {
		return nil, api.ErrCorrupt
	}
	if m.version, ok = versionOf(bytes); !ok {
		return nil, api.ErrCorrupt
	}
	return m, api.OK
}

// pointed returns the number of the manifest to which the bytes point; ok is false if they are no pointer to one.
func pointed(bytes string) (number int, ok bool) {
	payload, size, e := frame.Get(bytes)
	if e != api.OK || size != len(bytes) {
		return 0, false
	}
	n, size, e := code.Uint(payload)
	if e != api.OK || size != len(payload) || n < 1 || n > mostNumber {
		return 0, false
	}
	return int(n), true
}

// versionOf returns the version of a manifest with these bytes; ok is false if no manifest has them.
func versionOf(bytes string) (v api.Version, ok bool) {
	payloads, _, e := frame.All(bytes)
	// A crash can leave a frame incomplete, but only the last one, and never the first, which was durable before the manifest was current.
	if len(payloads) == 0 || e != api.OK && e != api.ErrShort {
		return api.Version{}, false
	}
	v = edit.First()
	for _, payload := range payloads {
		change, e := edit.Decode(payload)
		if e != api.OK {
			return api.Version{}, false
		}
		if v, e = edit.Apply(v, change); e != api.OK {
			return api.Version{}, false
		}
	}
	return v, true
}
