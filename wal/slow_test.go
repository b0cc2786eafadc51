package wal_test

import (
	"encoding/binary"
	"fmt"
	"hash/crc32"
	"math/rand/v2"
	"regexp"
	"strconv"
	"strings"
	"testing"

	"freshet/api"
	"freshet/batch"
	"freshet/disk"
	"freshet/wal"
)

// journal is what a log and a slow one have in common.
type journal interface {
	Append(b api.Batch) api.Errno
	Sync() api.Errno
	Rotate() (int, api.Errno)
	Retire(below int) api.Errno
	Last() int
	Next() uint64
}

// slow is a log as the chapter tells it: a list of the disk's calls for each of its own.
type slow struct {
	d    *disk.Disk
	last int
	next uint64
}

// source returns numbers that look random and are the same in each run.
func source(seed uint64) *rand.Rand { return rand.New(rand.NewPCG(seed, 7)) }

// put and del are writes, and of a batch.
func put(key, value string) api.Write { return api.Write{Kind: 1, Key: key, Value: value} }
func del(key string) api.Write        { return api.Write{Kind: 2, Key: key} }
func of(seq uint64, l ...api.Write) api.Batch {
	return api.Batch{Seq: seq, List: l}
}

// name is the name of a segment.
func name(number int) string { return fmt.Sprintf("log-%08d", number) }

// short is the library's short number.
func short(n uint64) string { return string(binary.AppendUvarint(nil, n)) }

// field is a string behind its length.
func field(s string) string { return short(uint64(len(s))) + s }

// framed is the frame of a payload.
func framed(payload string) string {
	body := []byte(field(payload))
	return string(binary.LittleEndian.AppendUint32(body, crc32.Checksum(body, crc32.MakeTable(crc32.Castagnoli))))
}

// framedHead is the frame of a segment's head.
func framedHead(number int) string { return framed(short(uint64(number))) }

// framedBatch is the frame of a batch.
func framedBatch(b api.Batch) string {
	s := short(b.Seq) + short(uint64(len(b.List)))
	for _, w := range b.List {
		s += string([]byte{byte(w.Kind)}) + field(w.Key)
		if w.Kind == 1 {
			s += field(w.Value)
		}
	}
	return framed(s)
}

// segment is the bytes of a segment with these batches.
func segment(number int, l ...api.Batch) string {
	s := framedHead(number)
	for _, b := range l {
		s += framedBatch(b)
	}
	return s
}

// slowFrames takes the frames of s apart; ok is false if what is behind them isn't the beginning of one.
func slowFrames(s string) (payloads []string, ok bool) {
	for s != "" {
		n, size := binary.Uvarint([]byte(s[:min(len(s), 10)]))
		switch {
		case size == 0 && len(s) < 10:
			return payloads, true
		case size <= 0 || short(n) != s[:size] || n > 65536:
			return payloads, false
		case len(s) < size+int(n)+4:
			return payloads, true
		}
		payload := s[size : size+int(n)]
		whole := framed(payload)
		if s[:len(whole)] != whole {
			return payloads, false
		}
		payloads, s = append(payloads, payload), s[len(whole):]
	}
	return payloads, true
}

var segmentForm = regexp.MustCompile(`\Alog-[0-9]{8}\z`)

// slowSegments returns the numbers of a disk's segments.
func slowSegments(d *disk.Disk) []int {
	var l []int
	for _, name := range d.Names() {
		if segmentForm.MatchString(name) && name != "log-00000000" {
			n, _ := strconv.Atoi(name[4:])
			l = append(l, n)
		}
	}
	return l
}

// slowRead returns the batches of a segment; ok is false if it isn't well-formed.
func slowRead(d *disk.Disk, number int) (l []api.Batch, ok bool) {
	s, _ := d.Read(name(number))
	payloads, ok := slowFrames(s)
	for i, payload := range payloads {
		if i == 0 {
			ok = ok && payload == short(uint64(number))
			continue
		}
		b, e := batch.Decode(payload)
		ok = ok && e == api.OK
		l = append(l, b)
	}
	return l, ok
}

// slowMake makes a segment.
func slowMake(d *disk.Disk, number int) (created bool, e api.Errno) {
	for i, step := range []func() api.Errno{
		func() api.Errno { return d.Create(name(number)) },
		func() api.Errno { return d.Append(name(number), framedHead(number)) },
		func() api.Errno { return d.Sync(name(number)) },
		d.SyncDir,
	} {
		if e := step(); e != api.OK {
			return i > 0, e
		}
	}
	return true, api.OK
}

// slowOpen opens a slow log.
func slowOpen(d *disk.Disk, from int) (*slow, []api.Batch, api.Errno) {
	if _, e := d.Read("no-such-file"); e != api.ErrNone && e != api.OK {
		return nil, nil, e
	}
	if from < 1 || from > 99999000 {
		return nil, nil, api.ErrArg
	}
	l := &slow{d, from - 1, 1}
	var all []api.Batch
	for _, number := range slowSegments(d) {
		if number < from {
			continue
		}
		batches, ok := slowRead(d, number)
		l.last++
		if !ok || number != l.last {
			return nil, nil, api.ErrCorrupt
		}
		for _, b := range batches {
			if b.Seq < l.next {
				return nil, nil, api.ErrCorrupt
			}
			l.next = b.Seq + uint64(len(b.List))
		}
		all = append(all, batches...)
	}
	l.last++
	if l.last > 99999999 {
		return nil, nil, api.ErrLong
	}
	if _, e := slowMake(d, l.last); e != api.OK {
		return nil, nil, e
	}
	return l, all, api.OK
}

func (l *slow) Append(b api.Batch) api.Errno {
	if e := batch.Check(b); e != api.OK {
		return e
	}
	if b.Seq < l.next {
		return api.ErrArg
	}
	if payload, _ := batch.Encode(b); len(payload) > 65536 {
		return api.ErrLong
	}
	e := l.d.Append(name(l.last), framedBatch(b))
	if e == api.OK {
		l.next = b.Seq + uint64(len(b.List))
	}
	return e
}

func (l *slow) Sync() api.Errno { return l.d.Sync(name(l.last)) }

func (l *slow) Rotate() (int, api.Errno) {
	if l.last == 99999999 {
		return 0, api.ErrLong
	}
	if e := l.Sync(); e != api.OK {
		return 0, e
	}
	created, e := slowMake(l.d, l.last+1)
	if e == api.OK {
		l.last++
		return l.last, api.OK
	}
	if created {
		l.d.Remove(name(l.last + 1))
	}
	return 0, e
}

func (l *slow) Retire(below int) api.Errno {
	if l.d.Down() {
		return api.ErrDown
	}
	for _, number := range slowSegments(l.d) {
		if number < below && number != l.last {
			if e := l.d.Remove(name(number)); e != api.OK {
				return e
			}
		}
	}
	return api.OK
}

func (l *slow) Last() int { return l.last }

func (l *slow) Next() uint64 { return l.next }

// file is a file to be laid on a disk.
type file struct{ name, bytes string }

// newDisk returns a disk of that room on which these files are durable.
func newDisk(t *testing.T, room int, files ...file) *disk.Disk {
	t.Helper()
	d, e := disk.New(room)
	if e != api.OK {
		t.Fatalf("New(%d): %v", room, e)
	}
	lay(t, d, files...)
	return d
}

// lay lays files on a disk, in place of those that have their names, and makes them durable.
func lay(t *testing.T, d *disk.Disk, files ...file) {
	t.Helper()
	for _, f := range files {
		d.Remove(f.name)
		for _, e := range []api.Errno{d.Create(f.name), d.Append(f.name, f.bytes), d.Sync(f.name)} {
			if e != api.OK {
				t.Fatalf("the file %s: %v", f.name, e)
			}
		}
	}
	if e := d.SyncDir(); e != api.OK {
		t.Fatalf("SyncDir: %v", e)
	}
}

// files are a disk's files.
func files(d *disk.Disk) string {
	var l []string
	for _, name := range d.Names() {
		s, _ := d.Read(name)
		l = append(l, fmt.Sprintf("%s=%x", name, s))
	}
	return strings.Join(l, " ")
}

// told is what a disk tells.
func told(d *disk.Disk) string {
	return fmt.Sprint(files(d), " used ", d.Used(), " steps ", d.Steps(), " down ", d.Down())
}

// isFiles tests what a disk's files are.
func isFiles(t *testing.T, what string, d *disk.Disk, want ...file) {
	t.Helper()
	var l []string
	for _, f := range want {
		l = append(l, fmt.Sprintf("%s=%x", f.name, f.bytes))
	}
	if got := files(d); got != strings.Join(l, " ") {
		t.Errorf("%s: the files are\n%s, want\n%s", what, got, strings.Join(l, " "))
	}
}

// isLike tests whether two disks are equal, also behind crashes.
func isLike(t *testing.T, what string, got, want *disk.Disk) {
	t.Helper()
	if told(got) != told(want) {
		t.Fatalf("%s: the disk tells\n%s, want\n%s", what, told(got), told(want))
	}
	for _, choices := range [][]int{nil, {-1, -1, -1}, {1, 3, 2}, {2, -2, 5}, {3}, {-2, 9, 9}} {
		g, w := got.Copy(), want.Copy()
		g.Crash(choices)
		w.Crash(choices)
		if told(g) != told(w) {
			t.Fatalf("%s: behind a crash with the choices %d, the disk tells\n%s, want\n%s", what, choices, told(g), told(w))
		}
	}
}

// same tells whether two lists of batches are equal.
func same(a, b []api.Batch) bool {
	if len(a) != len(b) {
		return false
	}
	for i := range a {
		if !batch.Same(a[i], b[i]) {
			return false
		}
	}
	return true
}

// isOpen opens a log, and tests what is told.
func isOpen(t *testing.T, what string, d *disk.Disk, from, last int, next uint64, want ...api.Batch) *wal.Log {
	t.Helper()
	l, got, e := wal.Open(d, from)
	if l == nil || e != api.OK || !same(got, want) {
		t.Fatalf("%s: Open(%d) = %v, %v, %v, want %v", what, from, l, got, e, want)
	}
	isAt(t, what, l, last, next)
	return l
}

// isAt tests what a log tells of itself.
func isAt(t *testing.T, what string, l journal, last int, next uint64) {
	t.Helper()
	if l.Last() != last || l.Next() != next {
		t.Errorf("%s: Last is %d and Next is %d, want %d and %d", what, l.Last(), l.Next(), last, next)
	}
}

// isShut tests that no log can be opened, and that the disk is as it was.
func isShut(t *testing.T, what string, d *disk.Disk, from int, want api.Errno) {
	t.Helper()
	before := d.Copy()
	notOpened(t, what, d, from, want)
	if d != nil && before != nil {
		isLike(t, what, d, before)
	}
}

// notOpened tests that no log can be opened.
func notOpened(t *testing.T, what string, d *disk.Disk, from int, want api.Errno) {
	t.Helper()
	l, got, e := wal.Open(d, from)
	if l != nil || got != nil || e != want {
		t.Errorf("%s: Open(%d) = %v, %v, %v, want %v", what, from, l, got, e, want)
	}
	isNone(t, what, l)
}

// isNone tests that a log is none.
func isNone(t *testing.T, what string, l *wal.Log) {
	t.Helper()
	b := of(1, put("a", "x"))
	for _, e := range []api.Errno{l.Append(b), l.Append(api.Batch{}), l.Sync(), l.Retire(5), l.Retire(-5)} {
		if e != api.ErrNil {
			t.Errorf("%s: a call of no log: %v", what, e)
		}
	}
	if n, e := l.Rotate(); n != 0 || e != api.ErrNil {
		t.Errorf("%s: Rotate of no log: %d, %v", what, n, e)
	}
	isAt(t, what, l, 0, 0)
}

// isAll tests that each of these calls returned OK.
func isAll(t *testing.T, what string, l ...api.Errno) {
	t.Helper()
	for i, e := range l {
		if e != api.OK {
			t.Fatalf("%s: call %d: %v", what, i+1, e)
		}
	}
}

// isRotate tests what Rotate returns.
func isRotate(t *testing.T, what string, l journal, want int, e api.Errno) {
	t.Helper()
	if n, got := l.Rotate(); n != want || got != e {
		t.Errorf("%s: Rotate: %d, %v, want %d, %v", what, n, got, want, e)
	}
}
