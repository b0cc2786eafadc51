package wal

import (
	"freshet/api"
	"freshet/code"
	"freshet/disk"
	"freshet/frame"
	"freshet/names"
)

const (
	// prefix is what the name of a segment begins with.
	prefix = "log-"
	// mostNumber is the greatest number of a segment.
	mostNumber = names.Most
)

// segmentName returns the name of the segment with that number.
func segmentName(number int) string { return names.Of(prefix, number) }

// segments returns the numbers of the segments on a disk, in ascending order, which is that of their names.
func segments(d *disk.Disk) []int { return names.Numbers(prefix, d.Names()) }

// head returns the payload of a segment's first frame.
func head(number int) string { return code.PutUint(uint64(number)) }

// makeSegment makes the segment with that number, and ends at the first step that fails; created reports, also beside an error, whether the file was created.
func makeSegment(d *disk.Disk, number int) (created bool, e api.Errno) {
	name := segmentName(number)
	bytes, e := frame.Put(head(number))
	if e != api.OK {
		return false, e
	}
	if e := d.Create(name); e != api.OK {
		return false, e
	}
	if e := d.Append(name, bytes); e != api.OK {
		return true, e
	}
	if e := d.Sync(name); e != api.OK {
		return true, e
	}
	return true, d.SyncDir()
}
