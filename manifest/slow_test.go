package manifest_test

import (
	"encoding/binary"
	"fmt"
	"hash/crc32"
	"math/rand/v2"
	"regexp"
	"strconv"
	"strings"
	"testing"

	"freshet/api"
	"freshet/disk"
	"freshet/edit"
	"freshet/manifest"
)

// keeper is what a manifest and a slow one have in common.
type keeper interface {
	Version() api.Version
	Number() int
	Log(e api.Edit) api.Errno
	Roll() api.Errno
}

// slow is a manifest as the chapter tells it: a list of the disk's calls for each of its own.
type slow struct {
	d      *disk.Disk
	number int
	v      api.Version
}

// source returns numbers that look random and are the same in each run.
func source(seed uint64) *rand.Rand { return rand.New(rand.NewPCG(seed, 15)) }

// name is the name of a manifest.
func name(number int) string { return fmt.Sprintf("man-%08d", number) }

// short is the library's short number.
func short(n uint64) string { return string(binary.AppendUvarint(nil, n)) }

// field is a string behind its length.
func field(s string) string { return short(uint64(len(s))) + s }

// framed is the frame of a payload.
func framed(payload string) string {
	body := []byte(field(payload))
	return string(binary.LittleEndian.AppendUint32(body, crc32.Checksum(body, crc32.MakeTable(crc32.Castagnoli))))
}

// pointer is the file that names a manifest.
func pointer(number uint64) file { return file{"current", framed(short(number))} }

// encoded is the encoding of an edit.
func encoded(e api.Edit) string {
	var s strings.Builder
	put := func(numbers ...uint64) {
		for _, n := range numbers {
			s.WriteString(short(n))
		}
	}
	put(e.Log, e.Next, e.Seq, uint64(len(e.Gone)))
	for _, g := range e.Gone {
		put(uint64(g.Level), g.Number)
	}
	put(uint64(len(e.Added)))
	for _, p := range e.Added {
		m := p.Table
		put(uint64(p.Level), m.Number, uint64(m.Size), uint64(m.Rows))
		s.WriteString(field(m.First) + field(m.Last))
		put(m.Least, m.Greatest)
	}
	return s.String()
}

// whole is the edit that makes the first version v.
func whole(v api.Version) api.Edit {
	e := api.Edit{Log: v.Log, Next: v.Next, Seq: v.Seq}
	for i, l := range v.Levels {
		for _, m := range l {
			e.Added = append(e.Added, api.Placed{Level: i, Table: m})
		}
	}
	return e
}

// edits are the bytes of a manifest of these edits, one behind another.
func edits(l ...api.Edit) string {
	var s strings.Builder
	for _, e := range l {
		s.WriteString(framed(encoded(e)))
	}
	return s.String()
}

// rolled are the files of a disk behind a roll.
func rolled(number int, v api.Version, l ...api.Edit) []file {
	return []file{pointer(uint64(number)), {name(number), edits(append([]api.Edit{whole(v)}, l...)...)}}
}

// slowFrames takes the frames of s apart; ok is false if what is behind them isn't the beginning of one.
func slowFrames(s string) (payloads []string, ok bool) {
	for s != "" {
		n, size := binary.Uvarint([]byte(s[:min(len(s), 10)]))
		switch {
		case size == 0 && len(s) < 10:
			return payloads, true
		case size <= 0 || short(n) != s[:size] || n > 65536:
			return payloads, false
		case len(s) < size+int(n)+4:
			return payloads, true
		}
		complete := framed(s[size : size+int(n)])
		if !strings.HasPrefix(s, complete) {
			return payloads, false
		}
		payloads, s = append(payloads, s[size:size+int(n)]), s[len(complete):]
	}
	return payloads, true
}

var manifestForm = regexp.MustCompile(`\Aman-[0-9]{8}\z`)

// slowManifests returns the numbers of a disk's manifests.
func slowManifests(d *disk.Disk) []int {
	var l []int
	for _, name := range d.Names() {
		if manifestForm.MatchString(name) && name != "man-00000000" && name != "man-99999999" {
			n, _ := strconv.Atoi(name[4:])
			l = append(l, n)
		}
	}
	return l
}

// slowRead returns the number and the version that a disk has; ok is false if its files are not what was written.
func slowRead(d *disk.Disk) (number int, v api.Version, ok bool) {
	v = edit.First()
	bytes, e := d.Read("current")
	if e == api.ErrNone {
		return 0, v, true
	}
	for _, n := range slowManifests(d) {
		if pointer(uint64(n)).bytes == bytes {
			number = n
		}
	}
	s, _ := d.Read(name(number))
	payloads, ok := slowFrames(s)
	if number == 0 || !ok || len(payloads) == 0 {
		return 0, v, false
	}
	for _, payload := range payloads {
		change, e := edit.Decode(payload)
		if e != api.OK {
			return 0, v, false
		}
		if v, e = edit.Apply(v, change); e != api.OK {
			return 0, v, false
		}
	}
	return number, v, true
}

// slowOpen opens a slow manifest.
func slowOpen(d *disk.Disk) (*slow, api.Errno) {
	if _, e := d.Read("no-such-file"); e != api.ErrNone && e != api.OK {
		return nil, e
	}
	number, v, ok := slowRead(d)
	if !ok {
		return nil, api.ErrCorrupt
	}
	m := &slow{d, number, v}
	if e := m.Roll(); e != api.OK {
		return nil, e
	}
	return m, api.OK
}

func (m *slow) Version() api.Version { return m.v }

func (m *slow) Number() int { return m.number }

func (m *slow) Log(e api.Edit) api.Errno {
	v, n := edit.Apply(m.v, e)
	if n != api.OK {
		return n
	}
	if len(encoded(e)) > 65536 || len(encoded(whole(v))) > 65536 {
		return api.ErrLong
	}
	if n := m.d.Append(name(m.number), edits(e)); n != api.OK {
		return n
	}
	if n := m.d.Sync(name(m.number)); n != api.OK {
		return n
	}
	m.v = v
	return api.OK
}

func (m *slow) Roll() api.Errno {
	number := m.number
	for _, n := range slowManifests(m.d) {
		number = max(number, n)
	}
	number++
	if number == 99999999 || len(encoded(whole(m.v))) > 65536 {
		return api.ErrLong
	}
	calls := []func() api.Errno{
		func() api.Errno { return m.d.Create(name(number)) },
		func() api.Errno { return m.d.Append(name(number), edits(whole(m.v))) },
		func() api.Errno { return m.d.Sync(name(number)) },
		func() api.Errno {
			if _, e := m.d.Read("current.new"); e == api.ErrNone {
				return api.OK
			}
			return m.d.Remove("current.new")
		},
		func() api.Errno { return m.d.Create("current.new") },
		func() api.Errno { return m.d.Append("current.new", pointer(uint64(number)).bytes) },
		func() api.Errno { return m.d.Sync("current.new") },
		func() api.Errno { return m.d.SyncDir() },
		func() api.Errno { return m.d.Rename("current.new", "current") },
		func() api.Errno { return m.d.SyncDir() },
		func() api.Errno {
			for _, n := range slowManifests(m.d) {
				if n == number {
					continue
				}
				if e := m.d.Remove(name(n)); e != api.OK {
					return e
				}
			}
			return api.OK
		},
	}
	for _, call := range calls {
		if e := call(); e != api.OK {
			return e
		}
	}
	m.number = number
	return api.OK
}

// file is a file to be laid on a disk.
type file struct{ name, bytes string }

// newDisk returns a disk of that room on which these files are durable.
func newDisk(t *testing.T, room int, files ...file) *disk.Disk {
	t.Helper()
	d, e := disk.New(room)
	if e != api.OK {
		t.Fatalf("New(%d): %v", room, e)
	}
	lay(t, d, files...)
	return d
}

// lay lays files on a disk, in place of those that have their names, and makes them durable.
func lay(t *testing.T, d *disk.Disk, files ...file) {
	t.Helper()
	for _, f := range files {
		d.Remove(f.name)
		for _, e := range []api.Errno{d.Create(f.name), d.Append(f.name, f.bytes), d.Sync(f.name)} {
			if e != api.OK {
				t.Fatalf("the file %s: %v", f.name, e)
			}
		}
	}
	if e := d.SyncDir(); e != api.OK {
		t.Fatalf("SyncDir: %v", e)
	}
}

// files are a disk's files.
func files(d *disk.Disk) string {
	var l []string
	for _, name := range d.Names() {
		s, _ := d.Read(name)
		l = append(l, fmt.Sprintf("%s=%x", name, s))
	}
	return strings.Join(l, " ")
}

// told is what a disk tells.
func told(d *disk.Disk) string {
	return fmt.Sprint(files(d), " used ", d.Used(), " steps ", d.Steps(), " down ", d.Down())
}

// isFiles tests what a disk's files are.
func isFiles(t *testing.T, what string, d *disk.Disk, want ...file) {
	t.Helper()
	var l []string
	for _, f := range want {
		l = append(l, fmt.Sprintf("%s=%x", f.name, f.bytes))
	}
	if got := files(d); got != strings.Join(l, " ") {
		t.Errorf("%s: the files are\n%s, want\n%s", what, got, strings.Join(l, " "))
	}
}

// isLike tests whether two disks are equal, also behind crashes.
func isLike(t *testing.T, what string, got, want *disk.Disk) {
	t.Helper()
	if told(got) != told(want) {
		t.Fatalf("%s: the disk tells\n%s, want\n%s", what, told(got), told(want))
	}
	for _, choices := range [][]int{nil, {-1, -1, -1}, {1, 3, 2}, {2, -2, 5}, {3}, {-2, 9, 9}, {4, 1}} {
		g, w := got.Copy(), want.Copy()
		g.Crash(choices)
		w.Crash(choices)
		if told(g) != told(w) {
			t.Fatalf("%s: behind a crash with the choices %d, the disk tells\n%s, want\n%s", what, choices, told(g), told(w))
		}
	}
}

// isOpen opens a manifest, and tests what is told, also by the disk.
func isOpen(t *testing.T, what string, d *disk.Disk, number int, v api.Version) *manifest.Manifest {
	t.Helper()
	m, e := manifest.Open(d)
	if m == nil || e != api.OK {
		t.Fatalf("%s: Open = %v, %v", what, m, e)
	}
	isAt(t, what, m, number, v)
	for _, x := range rolled(number, v) {
		if s, e := d.Read(x.name); s != x.bytes || e != api.OK {
			t.Errorf("%s: %s is %x, %v, want %x", what, x.name, s, e, x.bytes)
		}
	}
	if _, e := d.Read("current.new"); e != api.ErrNone || len(slowManifests(d)) != 1 {
		t.Errorf("%s: Open leaves %q", what, d.Names())
	}
	return m
}

// isAt tests what a manifest tells of itself.
func isAt(t *testing.T, what string, m keeper, number int, v api.Version) {
	t.Helper()
	if got := m.Version(); m.Number() != number || !edit.Same(got, v) {
		t.Errorf("%s: number %d, version %v, want number %d, version %v", what, m.Number(), got, number, v)
	}
}

// isShut tests that no manifest can be opened, and that the disk is as it was.
func isShut(t *testing.T, what string, d *disk.Disk, want api.Errno) {
	t.Helper()
	before := d.Copy()
	notOpened(t, what, d, want)
	if d != nil && before != nil {
		isLike(t, what, d, before)
	}
}

// notOpened tests that no manifest can be opened.
func notOpened(t *testing.T, what string, d *disk.Disk, want api.Errno) {
	t.Helper()
	m, e := manifest.Open(d)
	if m != nil || e != want {
		t.Errorf("%s: Open = %v, %v, want %v", what, m, e, want)
	}
	isNone(t, what, m)
}

// isNone tests that a manifest is none.
func isNone(t *testing.T, what string, m *manifest.Manifest) {
	t.Helper()
	for _, e := range []api.Edit{{}, {Seq: 5}, {Gone: []api.Gone{{Level: 7}}}} {
		if n := m.Log(e); n != api.ErrNil {
			t.Errorf("%s: Log(%v) of no manifest: %v", what, e, n)
		}
	}
	if n := m.Roll(); n != api.ErrNil {
		t.Errorf("%s: Roll of no manifest: %v", what, n)
	}
	isAt(t, what, m, 0, api.Version{})
}

// isErrno tests what a call returned.
func isErrno(t *testing.T, what string, got, want api.Errno) {
	t.Helper()
	if got != want {
		t.Errorf("%s: %v, want %v", what, got, want)
	}
}

// isAll tests that each of these calls returned OK.
func isAll(t *testing.T, what string, l ...api.Errno) {
	t.Helper()
	for i, e := range l {
		if e != api.OK {
			t.Fatalf("%s: call %d: %v", what, i+1, e)
		}
	}
}

// applied is the version that edits make of v, one behind another.
func applied(t *testing.T, v api.Version, l ...api.Edit) api.Version {
	t.Helper()
	for i, e := range l {
		after, n := edit.Apply(v, e)
		if n != api.OK {
			t.Fatalf("edit %d can't be applied: %v", i, n)
		}
		v = after
	}
	return v
}

// table is a table of one key, with the rows of one number.
func table(number uint64, key string, seq uint64) api.Meta {
	return api.Meta{Number: number, Size: 100, Rows: 1, First: key, Last: key, Least: seq, Greatest: seq}
}

// at places a table, and from takes one away.
func at(level int, m api.Meta) api.Placed    { return api.Placed{Level: level, Table: m} }
func from(level int, number uint64) api.Gone { return api.Gone{Level: level, Number: number} }
func adding(next, seq uint64, l ...api.Placed) api.Edit {
	return api.Edit{Next: next, Seq: seq, Added: l}
}
