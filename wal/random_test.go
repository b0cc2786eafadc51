package wal_test

import (
	"fmt"
	"math/rand/v2"
	"slices"
	"strings"
	"testing"

	"freshet/api"
	"freshet/batch"
	"freshet/disk"
	"freshet/wal"
)

// pair is a log and a slow one, on disks with the same history.
type pair struct {
	random   *rand.Rand
	d, slowD *disk.Disk
	l        *wal.Log
	slow     *slow
	what     string
}

// newPair returns a pair on new disks, with nothing opened.
func newPair(t *testing.T, seed uint64) *pair {
	t.Helper()
	random := source(seed)
	room := []int{30, 60, 100, 200, 1000, 100000}[random.IntN(6)]
	return &pair{random: random, d: newDisk(t, room), slowD: newDisk(t, room)}
}

// both does something to both disks.
func (p *pair) both(do func(d *disk.Disk)) {
	do(p.d)
	do(p.slowD)
}

// open opens both, and tests that they tell the same.
func (p *pair) open(t *testing.T) {
	t.Helper()
	from := []int{1, 1, 1, 1, 2, 3, 4, 0, -1, 99999001}[p.random.IntN(10)]
	p.what = fmt.Sprint(p.what, "; Open ", from)
	l, got, e := wal.Open(p.d, from)
	slow, want, f := slowOpen(p.slowD, from)
	if e != f || !same(got, want) || (l == nil) != (slow == nil) {
		t.Fatalf("%s: %v, %v, want %v, %v", p.what, got, e, want, f)
	}
	p.l, p.slow = l, slow
}

// crash crashes both disks; their logs are none any more.
func (p *pair) crash() {
	choices := []int{p.random.IntN(12), p.random.IntN(60), p.random.IntN(60), p.random.IntN(60)}[:p.random.IntN(5)]
	p.what = fmt.Sprint(p.what, "; Crash ", choices)
	p.both(func(d *disk.Disk) { d.Crash(choices) })
	p.l, p.slow = nil, nil
}

// meddle does to both disks what others do: files, damage, fuses.
func (p *pair) meddle() {
	names := append(p.d.Names(), "x", "log-1", name(1+p.random.IntN(5)))
	chosen, n := names[p.random.IntN(len(names))], p.random.IntN(50)
	switch what := []string{"fuse", "fuse", "fuse", "turn", "create", "append", "remove", "syncdir", "no fuse"}[p.random.IntN(9)]; what {
	case "fuse":
		p.both(func(d *disk.Disk) { d.Fuse(1 + n%12) })
	case "no fuse":
		p.both(func(d *disk.Disk) { d.Fuse(0) })
	case "turn":
		p.both(func(d *disk.Disk) { d.Turn(chosen, n, 1<<(n%8)) })
	case "create":
		p.both(func(d *disk.Disk) { d.Create(chosen) })
	case "append":
		s := []string{"\x00", "\x80", framedHead(1), framedHead(2), framedHead(3), framedBatch(of(uint64(n), put("a", "x"))), framed("")}[n%7]
		p.both(func(d *disk.Disk) { d.Append(chosen, s) })
	case "remove":
		p.both(func(d *disk.Disk) { d.Remove(chosen) })
	case "syncdir":
		p.both(func(d *disk.Disk) { d.SyncDir() })
	default:
		panic(what)
	}
	p.what = fmt.Sprint(p.what, "; others ", chosen, n)
}

// batch returns a batch, mostly one that may be appended.
func (p *pair) batch() api.Batch {
	seq := p.slow.Next() + []uint64{0, 0, 0, 1, 7, 1 << 20, 1 << 40}[p.random.IntN(7)]
	list := []api.Write{put("a", "x"), del("b"), put("c", "some value"), put("d", "")}[:1+p.random.IntN(4)]
	switch p.random.IntN(12) {
	case 0:
		seq--
	case 1:
		seq = p.random.Uint64()
	case 2:
		list = append(list[:len(list):len(list)], put("", "x"))
	case 3:
		list = nil
	}
	return of(seq, list...)
}

// call calls a method of both logs, and tests that they tell the same.
func (p *pair) call(t *testing.T) {
	t.Helper()
	var got, want []any
	switch p.random.IntN(9) {
	case 0, 1, 2, 3, 4:
		b := p.batch()
		p.what = fmt.Sprint(p.what, "; Append ", b.Seq, len(b.List))
		got, want = []any{p.l.Append(b)}, []any{p.slow.Append(b)}
	case 5:
		p.what += "; Sync"
		got, want = []any{p.l.Sync()}, []any{p.slow.Sync()}
	case 6, 7:
		p.what += "; Rotate"
		n, e := p.l.Rotate()
		m, f := p.slow.Rotate()
		got, want = []any{n, e}, []any{m, f}
	case 8:
		below := p.slow.Last() - 2 + p.random.IntN(5)
		p.what = fmt.Sprint(p.what, "; Retire ", below)
		got, want = []any{p.l.Retire(below)}, []any{p.slow.Retire(below)}
	}
	got, want = append(got, p.l.Last(), p.l.Next()), append(want, p.slow.Last(), p.slow.Next())
	if !slices.Equal(got, want) {
		t.Fatalf("%s: %v, want %v", p.what, got, want)
	}
}

// P7.1 to P7.4: random calls of a log, among others' changes and crashes, do to the disk what the chapter says, step by step.
func TestRandomCalls(t *testing.T) {
	for seed := range uint64(1200) {
		p := newPair(t, seed)
		p.what = fmt.Sprint("seed ", seed)
		for range 40 {
			switch n := p.random.IntN(20); {
			case n == 0 || p.slowD.Down() && n < 8:
				p.crash()
			case n < 3:
				p.meddle()
			case n == 3 || p.slow == nil:
				p.open(t)
			default:
				p.call(t)
			}
			isLike(t, p.what, p.d, p.slowD)
		}
	}
}

// P7.1: Open of segments that were changed at random, some of their bytes for any others, tells what the chapter says.
func TestRandomSegments(t *testing.T) {
	tells := map[api.Errno]int{}
	for seed := range uint64(20000) {
		random := source(seed)
		all, batches := three(1)
		size := len(batches)
		// A few batches in any order, as a segment's frames, with a change.
		for i := range all {
			l := []string{framedHead(i + 1)}
			for range random.IntN(3) {
				l = append(l, framedBatch(batches[min(i+random.IntN(size), size-1)]))
			}
			s := []byte(strings.Join(l, ""))
			switch at := random.IntN(len(s)); random.IntN(16) {
			case 0:
				s = s[:at]
			case 1:
				s[at] ^= 1 << random.IntN(8)
			case 2:
				s = append(s, []byte{0, 1, 128, 255}[random.IntN(4)])
			case 3:
				s = slices.Delete(s, at, at+1)
			case 4:
				for i := range s[at:] {
					s[at+i] = byte(random.Uint32())
				}
			}
			all[i].bytes = string(s)
		}
		d := newDisk(t, 5000, all[:random.IntN(4)]...)
		c := d.Copy()
		from := 1 + random.IntN(3)
		l, got, e := wal.Open(d, from)
		slow, want, f := slowOpen(c, from)
		if e != f || !same(got, want) || l.Last() != slow.told().last || l.Next() != slow.told().next {
			t.Fatalf("seed %d: Open(%d): %v, %v, want %v, %v", seed, from, got, e, want, f)
		}
		isLike(t, fmt.Sprint("seed ", seed), d, c)
		tells[e]++
	}
	if tells[api.OK] < 1000 || tells[api.ErrCorrupt] < 1000 {
		t.Errorf("the errors were %v", tells)
	}
}

// told is the log itself, or a zero one for none.
func (l *slow) told() slow {
	if l == nil {
		return slow{}
	}
	return *l
}

// P7.2: Append takes what Encode takes, in all orders of a few Seqs.
func TestAppendSeqs(t *testing.T) {
	seqs := []uint64{0, 1, 2, 3, 4, 1<<56 - 65, 1<<56 - 64, 1<<56 - 63}
	for _, a := range seqs {
		for _, b := range seqs {
			for _, c := range seqs {
				for many := range 4 {
					d := newDisk(t, 1000)
					l := isOpen(t, "a new disk", d, 1, 1, 1)
					least := uint64(1)
					for _, seq := range []uint64{a, b, c} {
						x := of(seq, []api.Write{put("a", "x"), del("b"), put("c", "")}[:many]...)
						want := batch.Check(x)
						if want == api.OK && seq < least {
							want = api.ErrArg
						}
						if e := l.Append(x); e != want {
							t.Fatalf("Seqs %d, %d, %d of %d writes: Append: %v, want %v", a, b, c, many, e, want)
						}
						if want == api.OK {
							least = seq + uint64(many)
						}
						isAt(t, "a Seq", l, 1, least)
					}
				}
			}
		}
	}
}
