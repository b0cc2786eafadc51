package manifest_test

import (
	"fmt"
	"math/rand/v2"
	"slices"
	"strings"
	"testing"

	"freshet/api"
	"freshet/disk"
	"freshet/edit"
	"freshet/manifest"
)

// pair is a manifest and a slow one, on disks with the same history.
type pair struct {
	random   *rand.Rand
	d, slowD *disk.Disk
	m        *manifest.Manifest
	slow     *slow
	what     string
}

// newPair returns a pair on new disks, with nothing opened.
func newPair(t *testing.T, seed uint64) *pair {
	t.Helper()
	random := source(seed)
	room := []int{30, 60, 100, 200, 1000, 100000}[random.IntN(6)]
	return &pair{random: random, d: newDisk(t, room), slowD: newDisk(t, room), what: fmt.Sprint("seed ", seed)}
}

// both does something to both disks.
func (p *pair) both(do func(d *disk.Disk)) {
	do(p.d)
	do(p.slowD)
}

// open opens both, and tests that they tell the same.
func (p *pair) open(t *testing.T) {
	t.Helper()
	p.what += "; Open"
	m, e := manifest.Open(p.d)
	slow, f := slowOpen(p.slowD)
	if e != f || (m == nil) != (slow == nil) {
		t.Fatalf("%s: %v, %v, want %v, %v", p.what, m, e, slow, f)
	}
	p.m, p.slow = m, slow
	p.isSame(t)
}

// isSame tests that both tell the same of themselves.
func (p *pair) isSame(t *testing.T) {
	t.Helper()
	if p.slow == nil {
		isAt(t, p.what, p.m, 0, api.Version{})
	} else {
		isAt(t, p.what, p.m, p.slow.number, p.slow.v)
	}
}

// crash crashes both disks; their manifests are none any more.
func (p *pair) crash() {
	choices := []int{p.random.IntN(12), p.random.IntN(60), p.random.IntN(60), p.random.IntN(60)}[:p.random.IntN(5)]
	p.what = fmt.Sprint(p.what, "; Crash ", choices)
	p.both(func(d *disk.Disk) { d.Crash(choices) })
	p.m, p.slow = nil, nil
}

// meddle does to both disks what others do: files, damage, fuses.
func (p *pair) meddle() {
	names := append(p.d.Names(), "x", "man-1", "current", "current.new", name(1+p.random.IntN(9)))
	chosen, n := names[p.random.IntN(len(names))], p.random.IntN(50)
	switch what := []string{"fuse", "fuse", "fuse", "turn", "create", "append", "remove", "rename", "syncdir", "no fuse"}[p.random.IntN(10)]; what {
	case "fuse":
		p.both(func(d *disk.Disk) { d.Fuse(1 + n%13) })
	case "no fuse":
		p.both(func(d *disk.Disk) { d.Fuse(0) })
	case "turn":
		p.both(func(d *disk.Disk) { d.Turn(chosen, n, 1<<(n%8)) })
	case "create":
		p.both(func(d *disk.Disk) { d.Create(chosen) })
	case "append":
		s := []string{"\x00", "\x80", pointer(1).bytes, pointer(2).bytes, edits(api.Edit{Seq: uint64(n)}), edits(api.Edit{Log: 2, Next: uint64(n)}), framed("")}[n%7]
		p.both(func(d *disk.Disk) { d.Append(chosen, s) })
	case "remove":
		p.both(func(d *disk.Disk) { d.Remove(chosen) })
	case "rename":
		to := names[n%len(names)]
		p.both(func(d *disk.Disk) { d.Rename(chosen, to) })
	case "syncdir":
		p.both(func(d *disk.Disk) { d.SyncDir() })
	default:
		panic(what)
	}
	p.what = fmt.Sprint(p.what, "; others ", chosen, n)
}

// edit returns an edit, mostly one that can be applied.
func (p *pair) edit() api.Edit {
	v := p.slow.Version()
	next, seq := max(v.Next, 1), v.Seq+uint64(p.random.IntN(3))
	e := api.Edit{}
	switch p.random.IntN(8) {
	case 0:
	case 1:
		e = api.Edit{Log: max(v.Log, 1) + uint64(p.random.IntN(3))}
	case 2:
		e = api.Edit{Seq: seq}
	case 3, 4, 5:
		key := strings.Repeat(string(rune('a'+p.random.IntN(26))), 1+p.random.IntN(9))
		e = adding(next+1, seq+1, at(p.random.IntN(4), table(next, key, seq+1)))
	default:
		for i, l := range v.Levels {
			for _, m := range l {
				if p.random.IntN(2) == 0 {
					e.Gone = append(e.Gone, from(i, m.Number))
				}
			}
		}
	}
	switch p.random.IntN(20) {
	case 0:
		e.Seq = uint64(p.random.IntN(5))
	case 1:
		e.Gone = append(e.Gone, from(p.random.IntN(5), uint64(p.random.IntN(5))))
	case 2:
		e.Added = append(e.Added, at(p.random.IntN(5), table(uint64(p.random.IntN(9)), "k", uint64(p.random.IntN(9)))))
	}
	return e
}

// call calls a method of both manifests, and tests that they tell the same.
func (p *pair) call(t *testing.T) {
	t.Helper()
	var got, want api.Errno
	if p.random.IntN(6) == 0 {
		p.what += "; Roll"
		got, want = p.m.Roll(), p.slow.Roll()
	} else {
		e := p.edit()
		p.what = fmt.Sprint(p.what, "; Log ", e)
		got, want = p.m.Log(e), p.slow.Log(e)
	}
	if got != want {
		t.Fatalf("%s: %v, want %v", p.what, got, want)
	}
	p.isSame(t)
}

// P15.1 to P15.4: random calls of a manifest, among others' changes and crashes, do to the disk what the chapter says, step by step.
func TestRandomCalls(t *testing.T) {
	for seed := range uint64(400) {
		p := newPair(t, seed)
		for range 40 {
			switch n := p.random.IntN(20); {
			case n == 0 || p.slowD.Down() && n < 8:
				p.crash()
			case n < 3:
				p.meddle()
			case n == 3 || p.slow == nil:
				p.open(t)
			default:
				p.call(t)
			}
			isLike(t, p.what, p.d, p.slowD)
		}
	}
}

// P15.1: Open of files that were changed at random, some of their bytes for any others, tells what the chapter says.
func TestRandomFiles(t *testing.T) {
	l := append(some()[:5:5], api.Edit{Seq: 300}, api.Edit{Log: 9})
	tells := map[api.Errno]int{}
	for seed := range uint64(8000) {
		random := source(seed)
		// A few edits, mostly in their order, as a manifest's frames; with a change.
		var s []byte
		for i, e := range l {
			switch random.IntN(12) {
			case 0:
			case 1:
				s = append(s, edits(l[random.IntN(len(l))])...)
			default:
				if i < 6 || random.IntN(2) == 0 {
					s = append(s, edits(e)...)
				}
			}
		}
		p := []byte(pointer(uint64(random.IntN(4))).bytes)
		for _, s := range []*[]byte{&s, &p} {
			if len(*s) == 0 {
				continue
			}
			switch at := random.IntN(len(*s)); random.IntN(20) {
			case 0:
				*s = (*s)[:at]
			case 1:
				(*s)[at] ^= 1 << random.IntN(8)
			case 2:
				*s = append(*s, []byte{0, 1, 128, 255}[random.IntN(4)])
			case 3:
				*s = slices.Delete(*s, at, at+1)
			case 4:
				for i := range (*s)[at:] {
					(*s)[at+i] = byte(random.Uint32())
				}
			}
		}
		d := newDisk(t, 5000, []file{{"current", string(p)}, {name(1), string(s)}, {name(2), string(s)}, {name(3), string(s)}, {"current.new", string(p)}}[:2+random.IntN(4)]...)
		c := d.Copy()
		m, e := manifest.Open(d)
		slow, f := slowOpen(c)
		if e != f || (m == nil) != (slow == nil) {
			t.Fatalf("seed %d: Open: %v, %v, want %v, %v", seed, m, e, slow, f)
		}
		if slow != nil {
			isAt(t, fmt.Sprint("seed ", seed), m, slow.number, slow.v)
		}
		isLike(t, fmt.Sprint("seed ", seed), d, c)
		tells[e]++
	}
	if tells[api.OK] < 500 || tells[api.ErrCorrupt] < 500 {
		t.Errorf("the errors were %v", tells)
	}
}

// P15.1: Open of all small sets of files: which of current, current.new and three manifests there are, and what current names.
func TestSmallSetsOfFiles(t *testing.T) {
	contents := []string{"", edits(api.Edit{Seq: 1}), edits(api.Edit{Seq: 2}, api.Edit{Log: 2}) + "\x09", edits(api.Edit{Seq: 3}, api.Edit{Seq: 2}), edits(api.Edit{Seq: 4}) + "\x80\x00"}
	for number := range 6 {
		for fresh := range 2 {
			for set := range 6 * 6 * 6 {
				var all []file
				if number > 0 {
					all = append(all, pointer(uint64(number-1)))
				}
				if fresh > 0 {
					all = append(all, file{"current.new", pointer(1).bytes})
				}
				for i, which := range []int{set % 6, set / 6 % 6, set / 36} {
					if which < len(contents) {
						all = append(all, file{name(1 + i), contents[which]})
					}
				}
				d := newDisk(t, 1000, all...)
				c := d.Copy()
				m, e := manifest.Open(d)
				slow, f := slowOpen(c)
				what := fmt.Sprint("files ", all)
				if e != f || (m == nil) != (slow == nil) {
					t.Fatalf("%s: Open: %v, %v, want %v, %v", what, m, e, slow, f)
				}
				if slow != nil {
					isAt(t, what, m, slow.number, slow.v)
				}
				isLike(t, what, d, c)
			}
		}
	}
}

// P15.2 to P15.4, P15.7: all short sequences of a few edits and rolls.
func TestShortSequences(t *testing.T) {
	calls := []func(m keeper) api.Errno{
		keeper.Roll,
		func(m keeper) api.Errno { return m.Log(api.Edit{}) },
		func(m keeper) api.Errno { return m.Log(adding(3, 9, at(0, table(1, "a", 9)))) },
		func(m keeper) api.Errno { return m.Log(adding(3, 9, at(1, table(2, "a", 9)))) },
		func(m keeper) api.Errno { return m.Log(api.Edit{Gone: []api.Gone{from(0, 1)}}) },
		func(m keeper) api.Errno { return m.Log(api.Edit{Seq: 8}) },
	}
	const length = 4
	for n := range 6 * 6 * 6 * 6 {
		d, c := newDisk(t, 1000), newDisk(t, 1000)
		m := isOpen(t, "a new disk", d, 1, edit.First())
		slow, _ := slowOpen(c)
		for range length {
			got, want := calls[n%6](m), calls[n%6](slow)
			what := fmt.Sprint("call ", n%6)
			isErrno(t, what, got, want)
			isAt(t, what, m, slow.number, slow.v)
			n /= 6
		}
		isLike(t, "a short sequence", d, c)
	}
}
