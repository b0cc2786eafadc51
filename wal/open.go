package wal

import (
	"errors"

	"freshet/api"
	"freshet/batch"
	"freshet/disk"
	"freshet/frame"
)

const (
	// mostFrom is the greatest number that a log can be read from: it leaves numbers for further segments.
	mostFrom = 99999000
	// firstSeq is the lowest Seq that the first batch can have.
	firstSeq = 1
)

// failure is why a log could not be opened.
type failure struct{ number api.Errno }

func (f failure) Error() string { return "wal: no log was opened: " + f.number.Error() }

func (f failure) Unwrap() error { return f.number }

// collector is passed the batches of the segments, one after another.
type collector interface {
	// collect returns an error if b can't stand behind the batches that were passed before.
	collect(b api.Batch) error
}

// history is the batches that were read, and the lowest Seq that a further one can have.
type history struct {
	batches []api.Batch
	next    uint64
}

func (h *history) collect(b api.Batch) error {
	if b.Seq < h.next {
		return failure{api.ErrCorrupt}
	}
	h.batches = append(h.batches, b)
	h.next = batch.Next(b)
	return nil
}

// Open reads the segments from that number on, and returns their batches and a log that goes on behind them, in a new segment.
func Open(d *disk.Disk, from int) (*Log, []api.Batch, api.Errno) {
	l, batches, err := open(d, from)
	var f failure
	if errors.As(err, &f) {
		return nil, nil, f.number
	}
	return l, batches, api.OK
}

// open does what Open does; its errors are failures.
func open(d *disk.Disk, from int) (*Log, []api.Batch, error) {
	if err := check(d, from); err != nil {
		return nil, nil, err
	}
	h := history{next: firstSeq}
	number, err := read(d, from, &h)
	if err != nil {
		return nil, nil, err
	}
	if number > mostNumber {
		return nil, nil, failure{api.ErrLong}
	}
	if _, e := makeSegment(d, number); e != api.OK {
		return nil, nil, failure{e}
	}
	return &Log{disk: d, last: number, next: h.next}, h.batches, nil
}

// check returns an error if d can't be read, or if no log can be read from that number on.
func check(d *disk.Disk, from int) error {
	// No file has an empty name: to read it does nothing, but tells whether the disk answers.
	switch _, e := d.Read(""); {
	case e == api.ErrNil || e == api.ErrDown:
		return failure{e}
	case from < 1 || from > mostFrom:
		return failure{api.ErrArg}
	}
	return nil
}

// read passes on the batches of the segments from that number on; next is the number behind the last of them.
func read(d *disk.Disk, from int, to collector) (next int, err error) {
	next = from
	for _, number := range segments(d) {
		if number < from {
			continue
		}
		if number != next {
			return 0, failure{api.ErrCorrupt}
		}
		if err := readSegment(d, number, to); err != nil {
			return 0, err
		}
		next++
	}
	return next, nil
}

// readSegment passes on the batches of a segment.
func readSegment(d *disk.Disk, number int, to collector) error {
	bytes, e := d.Read(segmentName(number))
	if e != api.OK {
		return failure{e}
	}
	// A crash can leave a frame incomplete, the head too, but it changes none of the bytes that stay.
	payloads, _, e := frame.All(bytes)
	if e != api.OK && e != api.ErrShort {
		return failure{api.ErrCorrupt}
	}
	for i, payload := range payloads {
		if i == 0 {
			if payload != head(number) {
				return failure{api.ErrCorrupt}
			}
			continue
		}
		b, e := batch.Decode(payload)
		if e != api.OK {
			return failure{api.ErrCorrupt}
		}
		if err := to.collect(b); err != nil {
			return err
		}
	}
	return nil
}
