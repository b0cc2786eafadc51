package wal

import (
	"strconv"
	"strings"

	"freshet/api"
	"freshet/code"
	"freshet/disk"
	"freshet/frame"
)

const (
	// prefix is what the name of a segment begins with; its number follows, in as many digits as zeros has.
	prefix = "log-"
	zeros  = "00000000"
	// mostNumber is the greatest number of a segment.
	mostNumber = 99999999
)

// segmentName returns the name of the segment with that number.
func segmentName(number int) string {
	digits := strconv.Itoa(number)
	return prefix + zeros[len(digits):] + digits
}

// segmentNumber returns the number of the segment with that name; ok is false for a name that no segment has.
func segmentNumber(name string) (number int, ok bool) {
	number, err := strconv.Atoi(strings.TrimPrefix(name, prefix))
	// A number can be written in several ways, only one of which is a segment's name.
	if err != nil || number < 1 || number > mostNumber || name != segmentName(number) {
		return 0, false
	}
	return number, true
}

// segments returns the numbers of the segments on a disk, in ascending order, which is that of their names.
func segments(d *disk.Disk) []int {
	var l []int
	for _, name := range d.Names() {
		if number, ok := segmentNumber(name); ok {
			l = append(l, number)
		}
	}
	return l
}

// head returns the payload of a segment's first frame.
func head(number int) string { return code.PutUint(uint64(number)) }

// makeSegment makes the segment with that number, and ends at the first step that fails; created reports, also beside an error, whether the file was created.
func makeSegment(d *disk.Disk, number int) (created bool, e api.Errno) {
	name := segmentName(number)
	bytes, e := frame.Put(head(number))
	if e != api.OK {
		return false, e
	}
	if e := d.Create(name); e != api.OK {
		return false, e
	}
	if e := d.Append(name, bytes); e != api.OK {
		return true, e
	}
	if e := d.Sync(name); e != api.OK {
		return true, e
	}
	return true, d.SyncDir()
}
