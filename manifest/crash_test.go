package manifest_test

import (
	"fmt"
	"math/rand/v2"
	"slices"
	"strings"
	"testing"

	"freshet/api"
	"freshet/disk"
	"freshet/edit"
	"freshet/manifest"
)

// record is what was done with a manifest, so far as a crash has to leave it.
type record struct {
	d    *disk.Disk
	room int
	m    *manifest.Manifest
	// v is the version of the edits for which Log returned OK, and maybe that of these and of the one during which the power was lost.
	v, maybe api.Version
	// last is the number of tables that were added.
	last uint64
}

// begin returns a record of a manifest on a new disk.
func begin(t *testing.T, room int) *record {
	t.Helper()
	r := &record{d: newDisk(t, room), room: room, v: edit.First(), maybe: edit.First()}
	r.m = isOpen(t, "a new disk", r.d, 1, r.v)
	return r
}

// fits reports whether the disk has room for a new manifest of that version, and a pointer to it.
func (r *record) fits(v api.Version) bool {
	left, _ := r.d.Read("current.new")
	next := rolled(99, v)
	free := r.room - r.d.Used()
	return len(next[1].bytes) <= free && len(next[1].bytes)+len(next[0].bytes) <= free+len(left)
}

// open opens the manifest, and tests that the version is what it has to be.
func (r *record) open(t *testing.T, what string) bool {
	t.Helper()
	fits := r.fits(r.v) && r.fits(r.maybe)
	before := slices.Max(append(slowManifests(r.d), 0))
	m, e := manifest.Open(r.d)
	if e == api.ErrRoom && !fits || e == api.ErrDown && r.d.Down() {
		return false
	}
	if e != api.OK {
		t.Fatalf("%s: Open: %v, with the files %q", what, e, r.d.Names())
	}
	got := m.Version()
	if !edit.Same(got, r.v) && !edit.Same(got, r.maybe) {
		t.Fatalf("%s: Open has the version %v, want %v or %v", what, got, r.v, r.maybe)
	}
	r.m, r.v, r.maybe = m, got, got
	r.isRolled(t, what)
	if m.Number() != before+1 {
		t.Fatalf("%s: Open has the number %d, want %d", what, m.Number(), before+1)
	}
	return true
}

// isRolled tests that the disk has what a roll leaves.
func (r *record) isRolled(t *testing.T, what string) {
	t.Helper()
	want := rolled(r.m.Number(), r.v)
	for _, f := range want {
		if s, e := r.d.Read(f.name); s != f.bytes || e != api.OK {
			t.Fatalf("%s: %s is %x, %v, want %x", what, f.name, s, e, f.bytes)
		}
	}
	if l := slowManifests(r.d); len(l) != 1 || slices.Contains(r.d.Names(), "current.new") {
		t.Fatalf("%s: the files are %q", what, r.d.Names())
	}
}

// log logs an edit.
func (r *record) log(t *testing.T, what string, e api.Edit) {
	t.Helper()
	after := applied(t, r.v, e)
	switch n := r.m.Log(e); n {
	case api.OK:
		r.v, r.maybe = after, after
	case api.ErrDown:
		r.maybe = after
	case api.ErrRoom:
	default:
		t.Fatalf("%s: Log: %v", what, n)
	}
	if got := r.m.Version(); !edit.Same(got, r.v) {
		t.Fatalf("%s: the version is %v, want %v", what, got, r.v)
	}
}

// do does a call that is named by a letter, unless the power is lost.
func (r *record) do(t *testing.T, what string, call byte) {
	t.Helper()
	if r.d.Down() {
		return
	}
	switch call {
	case 's':
		r.log(t, what, api.Edit{Seq: r.v.Seq + 1})
	case 't':
		r.last = max(r.last+1, r.v.Next)
		r.log(t, what, adding(r.last+1, r.v.Seq+1, at(0, table(r.last, strings.Repeat("key", int(r.last%7)+1), r.v.Seq+1))))
	case 'g':
		if l := r.v.Levels[0]; len(l) > 0 {
			r.log(t, what, api.Edit{Gone: []api.Gone{from(0, l[0].Number)}})
		}
	case 'r':
		number := r.m.Number()
		switch e := r.m.Roll(); e {
		case api.OK:
			r.isRolled(t, what)
		case api.ErrDown, api.ErrRoom:
			if r.m.Number() != number {
				t.Fatalf("%s: a Roll that failed has the number %d", what, r.m.Number())
			}
		default:
			t.Fatalf("%s: Roll: %v", what, e)
		}
		if got := r.m.Version(); !edit.Same(got, r.v) {
			t.Fatalf("%s: Roll changes the version to %v, from %v", what, got, r.v)
		}
	case 'o':
		if r.open(t, what) {
			break
		}
		// The manifest that was open is another one's then: as good as none.
		r.d.Fuse(1)
		r.d.SyncDir()
	}
}

// copy returns a record of a copy of the disk, with no manifest.
func (r *record) copy() *record {
	c := *r
	c.d, c.m = r.d.Copy(), nil
	return &c
}

// crash crashes the disk and opens the manifest again.
func (r *record) crash(t *testing.T, what string, choices ...int) bool {
	t.Helper()
	r.d.Crash(choices)
	return r.open(t, fmt.Sprint(what, ", and a crash with the choices ", choices))
}

// works are calls that are done with a manifest, by their letters.
var works = []string{"sss", "r", "rr", "o", "oo", "tsr", "ttgrt", "tsosr", "rsrts", "ororo", "tttttrgggo", "strogstrog"}

// P15.5, P15.7: behind a crash with the fuse at every step, whatever the choices are, Open has the version of the edits that were logged, or that and the one that was being logged.
func TestCrashAtEachStep(t *testing.T) {
	for _, room := range []int{100000, 150, 100} {
		for _, work := range works {
			for fuse := 1; fuse <= 100; fuse++ {
				r := begin(t, room)
				r.d.Fuse(fuse)
				what := fmt.Sprint(work, " at a fuse of ", fuse, " in a room of ", room)
				for i := range len(work) {
					r.do(t, what, work[i])
				}
				for first := range 9 {
					for _, second := range []int{0, 1, 4, 7, 11, 20} {
						r.copy().crash(t, what, first, second, second/2)
					}
					r.copy().crash(t, what, first, -1, -1, -1)
					r.copy().crash(t, what, first, -2, -1)
					r.copy().crash(t, what, first, 0, -1, -2)
				}
				if !r.d.Down() {
					break
				}
			}
		}
	}
}

// P15.5: a manifest that goes on behind crashes, the power being lost when it is opened, too.
func TestCrashesOneBehindTheOther(t *testing.T) {
	opened := 0
	for seed := range uint64(2000) {
		random := source(seed)
		r := begin(t, []int{100, 200, 400, 100000}[seed%4])
		what := fmt.Sprint("seed ", seed)
		for range 6 {
			r.d.Fuse(random.IntN(50))
			for range random.IntN(12) {
				r.do(t, what, "sstttggro"[random.IntN(9)])
			}
			for range 4 {
				// Where the power goes or the room ends at Open, what is there has to remain for the next one.
				if r.crash(t, what, random.IntN(12), random.IntN(60), random.IntN(60)) {
					opened++
					break
				}
				r.d.Fuse(1 + random.IntN(14))
				if r.open(t, what) {
					r.d.Fuse(0)
					break
				}
			}
			if r.d.Down() || !r.crash(t, what, -1, -1, -1) {
				break
			}
		}
	}
	if opened < 5000 {
		t.Errorf("only %d crashes were survived", opened)
	}
}

// P15.5: what a failed Roll has left does no harm, whatever a crash takes and brings back.
func TestCrashBehindFailedRoll(t *testing.T) {
	for left := range 45 {
		for fuse := range 25 {
			r := begin(t, 300)
			what := fmt.Sprint(left, " bytes left, at a fuse of ", fuse)
			r.do(t, what, 't')
			r.d.Create("x")
			r.d.SyncDir()
			r.d.Append("x", strings.Repeat("x", 300-r.d.Used()-left))
			r.d.Fuse(fuse)
			for _, call := range []byte("rsrs") {
				r.do(t, what, call)
			}
			r.d.Remove("x")
			for _, call := range []byte("srt") {
				r.do(t, what, call)
			}
			for first := range 12 {
				for _, second := range []int{0, 1, 9, -1} {
					r.copy().crash(t, what, first, second, second)
				}
			}
		}
	}
}

// bursts are places of bits that lie within 32 consecutive ones: each alone, any two, and some of any number; the first of them is 0.
func bursts(random *rand.Rand) []uint32 {
	l := []uint32{1, 1<<32 - 1}
	for i := 1; i < 32; i++ {
		l = append(l, 1|1<<i)
	}
	for range 10 {
		l = append(l, 1|random.Uint32())
	}
	return l
}

// turn inverts bits of a file, from that one on; it returns false if they are beyond the end.
func turn(d *disk.Disk, name string, bit, end int, bits uint32) bool {
	for i := range 32 {
		if bits>>i&1 == 0 {
			continue
		}
		if bit+i >= 8*end {
			return false
		}
		d.Turn(name, (bit+i)/8, 1<<((bit+i)%8))
	}
	return true
}

// P15.6: a burst in the pointer, or in any complete frame of the current manifest, behind its length, is noticed; the disk is left as it is.
func TestDamage(t *testing.T) {
	l := []api.Edit{whole(edit.First()), adding(3, 9, at(0, table(1, "a", 9)), at(1, table(2, strings.Repeat("long", 40), 8))), {}, {Seq: 1 << 40}}
	v := applied(t, edit.First(), l...)
	now := file{name(8), edits(l...) + "\x07an inc"}
	d := newDisk(t, 2000, pointer(8), now, file{name(5), edits(l[0])}, file{name(9), edits(l[0])}, file{"current.new", pointer(5).bytes})
	isOpen(t, "no damage", d.Copy(), 10, v)
	random := source(1)
	test := func(name, frame string, at int) {
		from, to := at+1, at+len(frame)
		if len(frame) > 133 {
			from++
		}
		for bit := 8 * from; bit < 8*to; bit++ {
			for _, bits := range bursts(random) {
				c := d.Copy()
				if !turn(c, name, bit, to, bits) {
					continue
				}
				if m, e := manifest.Open(c); m != nil || e != api.ErrCorrupt {
					t.Fatalf("bits %032b at bit %d of %s: %v, %v", bits, bit, name, m, e)
				}
				if c.Steps() != d.Steps() || len(c.Names()) != 5 {
					t.Fatalf("Open of a damaged %s took %d steps", name, c.Steps()-d.Steps())
				}
			}
		}
	}
	test("current", pointer(8).bytes, 0)
	at := 0
	for _, e := range l {
		test(now.name, edits(e), at)
		at += len(edits(e))
	}
}

// P15.6: damage of manifests that are not current, and of what an earlier roll left, is nobody's.
func TestDamageElsewhere(t *testing.T) {
	v := api.Version{Log: 3, Next: 4, Seq: 5}
	d := newDisk(t, 2000, append(rolled(8, v), file{name(5), edits(whole(v))}, file{name(9), edits(whole(v))}, file{"current.new", pointer(5).bytes})...)
	for _, name := range []string{name(5), name(9), "current.new"} {
		isAll(t, name, d.Turn(name, 1, 255))
	}
	isOpen(t, "damage elsewhere", d, 10, v)
}

// P15.7: Roll changes no version, wherever it is called; Open has the same one.
func TestRollChangesNoVersion(t *testing.T) {
	l := some()
	for turns := range 1 << len(l) {
		d := newDisk(t, 10000)
		m := isOpen(t, "a new disk", d, 1, edit.First())
		v, number := edit.First(), 1
		for i, e := range l {
			isAll(t, "an edit", m.Log(e))
			v = applied(t, v, e)
			if turns>>i&1 == 0 {
				continue
			}
			isErrno(t, "Roll", m.Roll(), api.OK)
			number++
			isAt(t, "Roll", m, number, v)
			isFiles(t, "Roll", d, rolled(number, v)...)
		}
		isOpen(t, fmt.Sprintf("Rolls at %09b", turns), d, number+1, v)
		isFiles(t, "Open", d, rolled(number+1, v)...)
	}
}
