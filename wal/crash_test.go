package wal_test

import (
	"fmt"
	"maps"
	"math/rand/v2"
	"slices"
	"strings"
	"testing"

	"freshet/api"
	"freshet/disk"
	"freshet/wal"
)

// record is what was done with a log, so far as a crash has to leave it.
type record struct {
	d *disk.Disk
	l *wal.Log
	// from is what the log is opened with; appended are the batches from that segment on, of which the first many have to remain.
	from, many int
	appended   []api.Batch
	// starts are how many batches there were when each segment was made.
	starts map[int]int
}

// open opens a log, and tests that what is there is a prefix with all that has to remain.
func (r *record) open(t *testing.T, what string) bool {
	t.Helper()
	l, got, e := wal.Open(r.d, r.from)
	if e == api.ErrDown || e == api.ErrRoom {
		return false
	}
	if e != api.OK || len(got) < r.many || len(got) > len(r.appended) || !same(got, r.appended[:len(got)]) {
		t.Fatalf("%s: Open(%d) tells %d batches %v, %v; %d were appended, %d are durable", what, r.from, len(got), got, e, len(r.appended), r.many)
	}
	if l.Next() != next(got) {
		t.Errorf("%s: Next is %d behind %v", what, l.Next(), got)
	}
	// What a crash leaves is durable, and so is the new segment. A segment that a Rotate has made and not got through with has no batches.
	r.l, r.appended, r.many = l, r.appended[:len(got):len(got)], len(got)
	for n := l.Last(); n >= r.from; n-- {
		if _, ok := r.starts[n]; ok {
			break
		}
		r.starts[n] = len(got)
	}
	return true
}

// do does a call that is named by a letter.
func (r *record) do(t *testing.T, call byte) {
	t.Helper()
	switch call {
	case 'a', 'b', 'c':
		seq := r.l.Next() + uint64(call-'a')*100
		b := of(seq, put("key", strings.Repeat(string(call), int(seq%5))), del("other"))
		if call == 'b' {
			b.List = b.List[:1]
		}
		if r.l.Append(b) == api.OK {
			r.appended = append(r.appended, b)
		}
	case 's':
		if r.l.Sync() == api.OK {
			r.many = len(r.appended)
		}
	case 'r':
		if n, e := r.l.Rotate(); e == api.OK {
			r.many = len(r.appended)
			r.starts[n] = r.many
		}
	case 't':
		// What is retired is no longer asked for: the log is opened from a later segment on.
		to := max(r.from, r.l.Last()-1)
		r.l.Retire(to)
		gone := r.starts[to]
		r.appended, r.many, r.from = r.appended[gone:], r.many-gone, to
		for n := range r.starts {
			r.starts[n] -= gone
		}
	}
}

// copy returns a record of a copy of the disk, with no log.
func (r *record) copy() *record {
	c := *r
	c.d, c.l, c.appended, c.starts = r.d.Copy(), nil, slices.Clone(r.appended), maps.Clone(r.starts)
	return &c
}

// crash crashes the disk and opens the log again.
func (r *record) crash(t *testing.T, what string, choices ...int) bool {
	t.Helper()
	r.d.Crash(choices)
	return r.open(t, fmt.Sprint(what, ", and a crash with the choices ", choices))
}

// begin returns a record of a log on a new disk.
func begin(t *testing.T, room int) *record {
	t.Helper()
	r := &record{d: newDisk(t, room), from: 1, starts: map[int]int{}}
	if !r.open(t, "a new disk") {
		t.Fatalf("a new disk of room %d has none for a log", room)
	}
	return r
}

// works are calls that are done with a log, by their letters.
var works = []string{"aaa", "asa", "asbrcs", "abrabrab", "rrrab", "asarbtcrta", "abcabcabc", "rarbrtrcrtsab"}

// P7.5: behind a crash with the fuse at every step, whatever the choices are, Open tells a prefix of what was appended, with all that was ahead of the last Sync or Rotate that returned OK.
func TestCrashAtEachStep(t *testing.T) {
	for _, room := range []int{100000, 60} {
		for _, work := range works {
			for fuse := 1; fuse <= 40; fuse++ {
				r := begin(t, room)
				r.d.Fuse(fuse)
				for i := range len(work) {
					r.do(t, work[i])
				}
				what := fmt.Sprint(work, " at a fuse of ", fuse)
				for first := range 6 {
					for second := range 60 {
						r.copy().crash(t, what, first, second, second/2)
					}
					r.copy().crash(t, what, first, -1, -1, -1)
					r.copy().crash(t, what, first, -2, -1)
				}
				if !r.d.Down() {
					break
				}
			}
		}
	}
}

// P7.5: a log that goes on behind crashes, the power being lost when it is opened, too.
func TestCrashesOneBehindTheOther(t *testing.T) {
	for seed := range uint64(3000) {
		random := source(seed)
		r := begin(t, 40+random.IntN(400))
		for range 6 {
			r.d.Fuse(random.IntN(40))
			for range random.IntN(25) {
				r.do(t, "aaabcssrt"[random.IntN(9)])
			}
			what := fmt.Sprint("seed ", seed)
			for range 3 {
				// Where the power goes or the room ends at Open, what is there has to remain for the next one.
				if r.crash(t, what, random.IntN(9), random.IntN(60), random.IntN(60)) {
					break
				}
				r.d.Fuse(1 + random.IntN(6))
				if r.open(t, what) {
					r.d.Fuse(0)
					break
				}
			}
			if r.d.Down() || !r.crash(t, what, -1, -1, -1) {
				break
			}
		}
	}
}

// P7.5, P7.7: a failed Rotate for which there is no room leaves all that is there, whatever a crash brings back.
func TestCrashBehindFailedRotate(t *testing.T) {
	for fuse := range 12 {
		for left := range 12 {
			r := begin(t, 100)
			r.d.Create("x")
			r.d.SyncDir()
			r.do(t, 'a')
			r.d.Append("x", strings.Repeat("x", 100-r.d.Used()-left))
			r.d.Fuse(fuse)
			for range 2 {
				r.do(t, 'r')
				r.do(t, 'b')
			}
			r.d.Remove("x")
			r.do(t, 'a')
			r.do(t, 'r')
			for first := range 9 {
				for second := range 25 {
					r.copy().crash(t, fmt.Sprint(left, " bytes left, at a fuse of ", fuse), first, second, second)
				}
			}
		}
	}
}

// bursts are places of bits that lie within 32 consecutive ones: each alone, any two, and some of any number; the first of them is 0.
func bursts(random *rand.Rand) []uint32 {
	l := []uint32{1, 1<<32 - 1}
	for i := 1; i < 32; i++ {
		l = append(l, 1|1<<i)
	}
	for range 40 {
		l = append(l, 1|random.Uint32())
	}
	return l
}

// turn inverts bits of a file, from that one on; it returns false if they are beyond the end.
func turn(d *disk.Disk, name string, bit, end int, bits uint32) bool {
	for i := range 32 {
		if bits>>i&1 == 0 {
			continue
		}
		if bit+i >= 8*end {
			return false
		}
		d.Turn(name, (bit+i)/8, 1<<((bit+i)%8))
	}
	return true
}

// P7.6: a burst in any frame of any segment, behind its length, is noticed; the disk is left as it is.
func TestDamage(t *testing.T) {
	all, batches := three(1)
	all[2].bytes += "\x07an inc"
	d := newDisk(t, 1000, all...)
	isOpen(t, "no damage", d.Copy(), 1, 4, 301, batches...)
	random := source(1)
	for i, l := range [][]api.Batch{batches[:3], nil, batches[3:]} {
		frames := []string{framedHead(i + 1)}
		for _, b := range l {
			frames = append(frames, framedBatch(b))
		}
		at := 0
		for _, frame := range frames {
			from, to := at+1, at+len(frame)
			if len(frame) > 133 {
				from++
			}
			at = to
			for bit := 8 * from; bit < 8*to; bit++ {
				for _, bits := range bursts(random) {
					c := d.Copy()
					if !turn(c, all[i].name, bit, to, bits) {
						continue
					}
					if l, got, e := wal.Open(c, 1); l != nil || got != nil || e != api.ErrCorrupt {
						t.Fatalf("bits %032b at bit %d of segment %d: %v, %v, %v", bits, bit, i+1, l, got, e)
					}
					if c.Steps() != d.Steps() || len(c.Names()) != 3 {
						t.Fatalf("Open of a segment that is damaged took %d steps", c.Steps()-d.Steps())
					}
				}
			}
		}
	}
}

// P7.6: damage below from is nobody's.
func TestDamageBelow(t *testing.T) {
	all, batches := three(1)
	d := newDisk(t, 1000, all...)
	isAll(t, "damage", d.Turn(name(1), 8, 16))
	isShut(t, "damage", d, 1, api.ErrCorrupt)
	isOpen(t, "damage below", d, 2, 4, 301, batches[3:]...)
}

// P7.7: wherever Rotate is called, Open tells the same batches; Next never decreases.
func TestRotateChangesNoBatches(t *testing.T) {
	for turns := range 1 << 7 {
		d := newDisk(t, 1000)
		l := isOpen(t, "a new disk", d, 1, 1, 1)
		var done []api.Batch
		last, least := 1, uint64(1)
		for i := range 7 {
			if i < 6 {
				b := of(least+uint64(i%3), slices.Repeat([]api.Write{put("a", fmt.Sprint(i))}, 1+i%2)...)
				isAll(t, "a batch", l.Append(b))
				done, least = append(done, b), next([]api.Batch{b})
			}
			isAt(t, "a batch", l, last, least)
			ahead := d.Copy()
			if turns>>i&1 == 1 {
				last++
				isRotate(t, "Rotate", l, last, api.OK)
				isOpen(t, "ahead of Rotate", ahead, 1, last, least, done...)
			}
			isOpen(t, "behind Rotate", d.Copy(), 1, last+1, least, done...)
		}
	}
}

// P7.7: what Open tells behind Retire, at each number up to that of the last segment.
func TestOpenBehindRetire(t *testing.T) {
	for segments := 1; segments <= 6; segments++ {
		for below := 1; below <= segments; below++ {
			for _, turns := range []int{0, 1, 2} {
				d := newDisk(t, 2000)
				l := isOpen(t, "a new disk", d, 1, 1, 1)
				var rest []api.Batch
				for number := 1; number <= segments; number++ {
					if number > 1 {
						isRotate(t, "a new disk", l, number, api.OK)
					}
					for i := range turns {
						b := of(l.Next()+uint64(i), put("a", fmt.Sprint(number, i)), del("b"))
						isAll(t, "a batch", l.Append(b))
						if number >= below {
							rest = append(rest, b)
						}
					}
				}
				seq := l.Next()
				isAll(t, "Retire", l.Retire(below))
				isAt(t, "behind Retire", l, segments, seq)
				what := fmt.Sprint("Retire(", below, ") of ", segments)
				isOpen(t, what, d.Copy(), below, segments+1, next(rest), rest...)
				if below > 1 {
					isShut(t, what, d.Copy(), below-1, api.ErrCorrupt)
				}
				b := of(seq, put("c", "behind Retire"))
				isAll(t, "behind Retire", l.Append(b))
				isOpen(t, what, d, below, segments+1, seq+1, append(rest, b)...)
			}
		}
	}
}

// P7.1 to P7.4: a log whose disk crashed and which wasn't opened again: its calls end.
func TestLogBehindCrash(t *testing.T) {
	for n := range 12 {
		for _, choices := range [][]int{nil, {1}, {-1, -1, -1}, {2, 3}} {
			d := newDisk(t, 200)
			l := isOpen(t, "a new disk", d, 1, 1, 1)
			d.Fuse(n)
			l.Append(of(1, put("a", "x")))
			l.Rotate()
			l.Append(of(2, put("a", "x")))
			l.Retire(2)
			d.Crash(choices)
			d.Remove(name(1))
			for range 3 {
				l.Append(of(2, put("a", "x")))
				l.Append(of(9, put("a", "x")))
				l.Sync()
				l.Rotate()
				l.Retire(5)
				l.Last()
				l.Next()
			}
		}
	}
}
