package disk_test

import (
	"fmt"
	"math"
	"math/big"
	"math/rand/v2"
	"slices"
	"strings"
	"testing"

	"freshet/api"
	"freshet/disk"
)

// after returns what the files of a disk are behind a crash with these choices; the disk itself isn't changed.
func after(d *disk.Disk, choices ...int) string {
	c := d.Copy()
	c.Crash(choices)
	return files(c)
}

// isAfter tests what the files are behind a crash with these choices.
func isAfter(t *testing.T, d *disk.Disk, want string, choices ...int) {
	t.Helper()
	if got := after(d, choices...); got != want {
		t.Errorf("behind a crash with the choices %d the files are %q, want %q", choices, got, want)
	}
}

// The chapter's examples: P5.1, P5.2, P5.5.
func TestExamples(t *testing.T) {
	isAfter(t, newDisk(t, 10, "create a", "append a xyz"), "")
	isAfter(t, newDisk(t, 10, "create a", "append a xyz", "sync a"), "a=xyz", 1)
	isAfter(t, newDisk(t, 10, "create a", "syncdir", "append a xyz"), "a=xy", 0, 2)
	d := newDisk(t, 10, "fuse 2", "create a")
	if e := d.Append("a", "x"); e != api.ErrDown {
		t.Errorf("Append at the fuse: %v", e)
	}
	if b, e := d.Read("a"); b != "" || e != api.ErrDown {
		t.Errorf("Read behind the fuse: %q, %v", b, e)
	}
	d = newDisk(t, 10, "create a")
	isError(t, d, "append a 01234567890", api.ErrRoom)
	if none, e := disk.New(-1); none != nil || e != api.ErrArg {
		t.Errorf("New(-1): %v, %v", none, e)
	}
}

// steps are calls each of which is a step, in this order.
var steps = []string{"create a", "append a xyz", "sync a", "syncdir", "create b", "append b v", "rename a c", "rename c b", "rename b b", "remove b", "syncdir", "create a", "append a ", "remove a"}

// P5.5, P5.10: a fuse at each step: so many steps are done, and no more; the step of the power loss has no effect.
func TestFuseAtEachStep(t *testing.T) {
	for from := range steps {
		for n := 1; n <= len(steps)-from; n++ {
			d, want := newDisk(t, 10, steps[:from]...), newDisk(t, 10, steps[:from+n-1]...)
			d.Fuse(n)
			all(t, d, steps[from:from+n-1]...)
			if d.Down() || files(d) != files(want) {
				t.Errorf("fuse of %d behind %d steps: %v, %q", n, from, d.Down(), files(d))
			}
			for range 3 {
				if e := do(d, steps[from+n-1]); e != api.ErrDown {
					t.Errorf("step %d of a fuse of %d: %v", n, n, e)
				}
				if d.Steps() != from+n-1 || !d.Down() {
					t.Errorf("fuse of %d behind %d steps: %d steps, %v", n, from, d.Steps(), d.Down())
				}
			}
			for many := range 12 {
				for kept := range 4 {
					isAfter(t, d, after(want, many, kept, kept), many, kept, kept)
				}
			}
		}
	}
}

// P5.5: calls that return errors and calls that are no steps don't count, and are told as ever when the next step is that of the power loss.
func TestFuseCountsStepsAlone(t *testing.T) {
	d := newDisk(t, 10, "create a", "append a xyz", "fuse 2", "syncdir")
	for _, x := range []struct {
		line string
		e    api.Errno
	}{
		{"create A", api.ErrArg}, {"create a", api.ErrThere}, {"append b x", api.ErrNone}, {"append a 01234567", api.ErrRoom}, {"sync b", api.ErrNone},
		{"rename b a", api.ErrNone}, {"rename a A", api.ErrArg}, {"remove b", api.ErrNone}, {"read a", api.OK}, {"read b", api.ErrNone},
		{"turn a 0 0", api.OK}, {"turn a 3 1", api.ErrArg}, {"turn b 0 1", api.ErrNone},
	} {
		isError(t, d, x.line, x.e)
		isTold(t, d, "a=xyz used 3 steps 3 down false")
	}
	for _, line := range []string{"create b", "append a x", "append a ", "sync a", "syncdir", "rename a b", "rename a a", "remove a"} {
		c := d.Copy()
		if e := do(c, line); e != api.ErrDown || !c.Down() {
			t.Errorf("%s at the fuse: %v, %v", line, e, c.Down())
		}
		// Nothing was durable but the directory, and the choices of -1 keep all there is.
		isAfter(t, c, "a=")
		isAfter(t, c, "a=xyz", -1, -1)
	}
}

// untilDown returns how many steps are done until the power is lost, at most 50.
func untilDown(d *disk.Disk) int {
	n := 0
	for n < 50 && d.SyncDir() == api.OK {
		n++
	}
	return n
}

// P5.5: a fuse below 1 is none, and a fuse takes the place of an earlier one.
func TestFuses(t *testing.T) {
	for _, x := range []struct {
		fuses []int
		want  int
	}{
		{nil, 50}, {[]int{1}, 0}, {[]int{2}, 1}, {[]int{50}, 49}, {[]int{51}, 50}, {[]int{math.MaxInt}, 50}, {[]int{1 << 32}, 50}, {[]int{1<<32 + 1}, 50},
		{[]int{0}, 50}, {[]int{-1}, 50}, {[]int{-7}, 50}, {[]int{math.MinInt}, 50},
		{[]int{3, 5}, 4}, {[]int{5, 3}, 2}, {[]int{3, 0}, 50}, {[]int{3, -1}, 50}, {[]int{3, math.MinInt}, 50}, {[]int{0, 3}, 2}, {[]int{-5, 3}, 2}, {[]int{4, 4}, 3}, {[]int{math.MaxInt, 1}, 0},
	} {
		d := newDisk(t, 10)
		for _, n := range x.fuses {
			d.Fuse(n)
		}
		if got := untilDown(d); got != x.want {
			t.Errorf("fuses of %d: %d steps, want %d", x.fuses, got, x.want)
		}
	}
	// The n-th step from now on: the steps ahead of the call don't count.
	d := newDisk(t, 10, "syncdir", "fuse 5", "syncdir", "syncdir", "fuse 4")
	if got := untilDown(d); got != 3 {
		t.Errorf("a fuse of 4 behind another one: %d steps, want 3", got)
	}
}

// P5.5: on a disk that is down, a fuse has no effect, and a crash takes every fuse away.
func TestFuseAndCrash(t *testing.T) {
	for _, n := range []int{-1, 0, 1, 2, 3, 20} {
		d := downDisk(t)
		d.Fuse(n)
		isTold(t, d, " used 0 steps 6 down true")
		if e := d.SyncDir(); e != api.ErrDown {
			t.Errorf("SyncDir on a disk that is down, behind Fuse(%d): %v", n, e)
		}
		d.Crash(nil)
		if got := untilDown(d); got != 50 {
			t.Errorf("Fuse(%d) on a disk that is down: %d steps", n, got)
		}
		d = newDisk(t, 10, "create a")
		d.Fuse(n)
		d.Crash(nil)
		if got := untilDown(d); got != 50 {
			t.Errorf("Fuse(%d) ahead of a crash: %d steps", n, got)
		}
	}
}

// P5.5: the first choice is how many pending changes are done again, of each kind.
func TestCrashPending(t *testing.T) {
	d := newDisk(t, 20, "create a", "append a xyz", "sync a", "create b", "append b v", "sync b", "syncdir",
		"create c", "append c w", "sync c", "rename a d", "remove b", "rename d c", "rename c c", "create a", "remove c", "create c")
	states := []string{
		"a=xyz b=v", "a=xyz b=v c=w", "b=v c=w d=xyz", "c=w d=xyz", "c=xyz", "c=xyz", "a= c=xyz", "a=", "a= c=",
	}
	isFiles(t, d, states[len(states)-1])
	for many, want := range states {
		isAfter(t, d, want, many)
		isAfter(t, d, want, many, 7, 7)
		isAfter(t, d, want, many+len(states))
		isAfter(t, d, want, many+1000*len(states))
		isAfter(t, d, want, many-len(states))
		isAfter(t, d, want, many-1000*len(states))
	}
	isAfter(t, d, states[0])
	all(t, d, "syncdir")
	for many := range 20 {
		isAfter(t, d, states[len(states)-1], many)
	}
}

// P5.5: a first choice is taken even if no change is pending.
func TestCrashFirstChoiceAlways(t *testing.T) {
	d := newDisk(t, 10, "create a", "create b", "syncdir", "append a xyz", "append b uvw")
	isAfter(t, d, "a= b=")
	isAfter(t, d, "a= b=", 3)
	isAfter(t, d, "a=x b=", 3, 1)
	isAfter(t, d, "a=xyz b=uv", 0, 3, 2)
}

// P5.5: files with bytes that are not sure take a choice each, in the order of their names; the others take none.
func TestCrashBytes(t *testing.T) {
	d := newDisk(t, 40, "create c", "create b", "create a", "create d", "create e", "append c xyz", "sync c", "append c uvw", "append b 0123", "append a mn", "sync a", "append e pq", "sync e", "append e r", "syncdir")
	isAfter(t, d, "a=mn b= c=xyz d= e=pq")
	isAfter(t, d, "a=mn b=0 c=xyzuv d= e=pqr", 0, 1, 2, 3)
	isAfter(t, d, "a=mn b=0123 c=xyzuvw d= e=pqr", 0, 4, 3, 1)
	isAfter(t, d, "a=mn b=0123 c=xyz d= e=pq", 0, 4)
	isAfter(t, d, "a=mn b= c=xyzu d= e=pq", 0, 0, 1)
	// Each is taken modulo how many there are: 5 for b, 4 for c, 2 for e.
	isAfter(t, d, "a=mn b= c=xyz d= e=pq", 0, 5, 4, 2)
	isAfter(t, d, "a=mn b=012 c=xyzuvw d= e=pqr", 0, 8, 7, 5, 9, 9)
	isAfter(t, d, "a=mn b=0123 c=xyzuvw d= e=pqr", 0, -1, -1, -1)
	isAfter(t, d, "a=mn b=0 c=xyzu d= e=pqr", 0, -4, -3, -1)
	isAfter(t, d, "a=mn b= c=xyz d= e=pq", 0, -5, -4, -2)
}

// P5.5: choices at the ends of what a number can be.
func TestCrashGreatChoices(t *testing.T) {
	d := newDisk(t, 10, "create a", "append a 01", "create b", "append b 45")
	for _, c := range []int{math.MaxInt, math.MinInt, math.MaxInt - 1, math.MinInt + 1, 1 << 32, -1 << 32, 1<<62 + 5} {
		// Mod of package big is never negative.
		m := int(new(big.Int).Mod(big.NewInt(int64(c)), big.NewInt(3)).Int64())
		isAfter(t, d, []string{"", "a=0", "a=01 b=45"}[m], c, c, c, c)
	}
}

// P5.5: which names take choices is what the directory has behind the first choice; the bytes of a file without a name take none.
func TestCrashChoicesOfNamesThen(t *testing.T) {
	d := newDisk(t, 20, "create a", "create b", "syncdir", "append a 012", "append b 456", "remove a", "rename b a", "create b", "append b 789")
	isAfter(t, d, "a=01 b=4", 0, 2, 1)
	isAfter(t, d, "b=45", 1, 2, 1)
	isAfter(t, d, "a=45", 2, 2, 1)
	isAfter(t, d, "a=45 b=7", 3, 2, 1)
}

// P5.5: how many bytes are sure goes with the file, whatever its name.
func TestSureGoesWithFile(t *testing.T) {
	d := newDisk(t, 20, "create a", "create b", "syncdir", "append a 01", "sync a", "append a 2", "append b 45", "rename a c", "sync b", "append c 3", "append b 6")
	isAfter(t, d, "a=01 b=45")
	isAfter(t, d, "a=012 b=456", 0, 1, 1)
	isAfter(t, d, "b=45 c=0123", 1, 0, 2)
	all(t, d, "sync c", "rename b c")
	isAfter(t, d, "a=0123 b=456", 0, 1)
	isAfter(t, d, "c=45", 2)
	isAfter(t, d, "c=456", 2, 1)
}

// P5.5: behind a crash, everything that remains is sure, no change is pending, there is no fuse and the power is there.
func TestCrashSettles(t *testing.T) {
	d := newDisk(t, 10, "create a", "append a xyz", "create b", "append b v", "fuse 1")
	do(d, "syncdir")
	d.Crash([]int{1, 2})
	isTold(t, d, "a=xy used 2 steps 4 down false")
	for many := range 4 {
		isAfter(t, d, "a=xy", many)
		isAfter(t, d, "a=xy", many, 1, 1)
	}
	all(t, d, "append a 01234567", "create b", "rename a c")
	isAfter(t, d, "a=xy")
	isAfter(t, d, "b= c=xy01", 2, 2)
}

// P5.5, P5.9: files that reappear may have more bytes than the room; Append returns ErrRoom till they have not, even of no bytes.
func TestCrashBeyondRoom(t *testing.T) {
	d := newDisk(t, 10, "create a", "append a 01234567", "sync a", "syncdir", "remove a", "create b", "append b 0123456789", "sync b", "create c", "rename c b", "append b 456789", "sync b")
	isTold(t, d, "b=456789 used 6 steps 12 down false")
	d.Crash([]int{2})
	isTold(t, d, "b=0123456789 used 10 steps 12 down false")
	d = newDisk(t, 10, "create a", "append a 01234567", "sync a", "create b", "append b 89", "sync b", "syncdir", "create c", "rename c a", "append b 01234567", "sync b", "append a ")
	d.Crash([]int{1})
	isTold(t, d, "a=01234567 b=8901234567 c= used 18 steps 12 down false")
	for _, line := range []string{"append a x", "append b x", "append a ", "append c "} {
		isError(t, d, line, api.ErrRoom)
	}
	// The other steps are done, and free space in the end.
	all(t, d, "create d", "sync a", "syncdir", "rename a c")
	isError(t, d, "append c ", api.ErrRoom)
	all(t, d, "remove c", "append b ")
	isError(t, d, "append d x", api.ErrRoom)
	all(t, d, "rename d b", "append b 0123456789")
	isError(t, d, "append b x", api.ErrRoom)
}

// P5.5, P5.9: Append is refused by one byte above the room, and done again at it.
func TestAppendAfterCrash(t *testing.T) {
	for over, e := range []api.Errno{api.OK, api.ErrRoom, api.ErrRoom} {
		d := newDisk(t, 4, "create a", "append a xyz", "sync a", "create b", "syncdir", "remove a", "append b "+"012"[:over+1], "sync b")
		d.Crash(nil)
		if d.Used() != 4+over {
			t.Errorf("Used: %d", d.Used())
		}
		isError(t, d.Copy(), "append b x", api.ErrRoom)
		if got := d.Append("b", ""); got != e {
			t.Errorf("Append of no bytes to a disk with %d bytes of 4: %v, want %v", 4+over, got, e)
		}
	}
}

// P5.5: the choices that are handed in are not changed, and none kept.
func TestChoicesNotChanged(t *testing.T) {
	d := newDisk(t, 20, "create a", "append a xyz", "create b", "append b uvw", "sync b")
	choices := []int{2, -1, 7, 9, 9}
	d.Crash(choices[:2])
	if !slices.Equal(choices, []int{2, -1, 7, 9, 9}) {
		t.Errorf("the choices are %d now", choices)
	}
	isFiles(t, d, "a=xyz b=uvw")
	choices[0], choices[1] = 0, 0
	isFiles(t, d, "a=xyz b=uvw")
	isAfter(t, d, "a=xyz b=uvw")
}

// P5.6: the errors of Turn, in their order, and the places beside a file's bytes.
func TestTurnErrors(t *testing.T) {
	d := newDisk(t, 10, "create a", "append a xyz", "create b")
	for _, name := range []string{"c", "A", ""} {
		isError(t, d, "turn "+name+" 0 1", api.ErrNone)
		isError(t, d, "turn "+name+" -1 1", api.ErrNone)
	}
	for _, at := range []int{-1, 3, 4, -3, 1 << 32, math.MaxInt, math.MinInt} {
		isError(t, d, fmt.Sprint("turn a ", at, " 1"), api.ErrArg)
		isError(t, d, fmt.Sprint("turn a ", at, " 0"), api.ErrArg)
	}
	isError(t, d, "turn b 0 1", api.ErrArg)
	isError(t, d, "turn b -1 1", api.ErrArg)
}

// P5.6: Turn at each byte, with each pattern of bits; it is no step.
func TestTurn(t *testing.T) {
	for bits := range 256 {
		for at := range 3 {
			d := newDisk(t, 10, "create a", "append a xyz", "create b", "append b xyz", "fuse 1")
			if e := d.Turn("a", at, byte(bits)); e != api.OK {
				t.Errorf("Turn(a, %d, %d): %v", at, bits, e)
			}
			want := []byte("xyz")
			want[at] ^= byte(bits)
			isTold(t, d, "a="+string(want)+" b=xyz used 6 steps 4 down false")
			all(t, d, fmt.Sprint("turn a ", at, " ", bits))
			isFiles(t, d, "a=xyz b=xyz")
			if e := d.SyncDir(); e != api.ErrDown {
				t.Errorf("the step behind Turn, at the fuse: %v", e)
			}
		}
	}
}

// P5.6: bytes that were sure remain sure, turned as they are, and those that were not sure do not become so.
func TestTurnSure(t *testing.T) {
	d := newDisk(t, 10, "create a", "append a xyz", "sync a", "append a uvw", "syncdir", "turn a 0 1", "turn a 2 1", "turn a 3 3", "turn a 5 1")
	isFiles(t, d, "a=yy{vvv")
	isAfter(t, d, "a=yy{")
	isAfter(t, d, "a=yy{v", 0, 1)
	isAfter(t, d, "a=yy{vvv", 0, 3)
	// The file is the same one, whatever its name is behind a crash.
	all(t, d, "rename a b", "turn b 1 1")
	isAfter(t, d, "a=yx{")
	isAfter(t, d, "b=yx{", 1)
}

// P5.6: a copy is equal in everything: what it tells, its room, pending changes, sure bytes, steps, fuse, power.
func TestCopy(t *testing.T) {
	for from := range len(steps) + 1 {
		for fuse := range 4 {
			d := newDisk(t, 10, steps[:from]...)
			d.Fuse(fuse)
			if fuse == 3 {
				all(t, d, "syncdir")
			}
			isCopy(t, d)
			for d.SyncDir() == api.OK && d.Steps() < 30 {
				isCopy(t, d)
			}
			isCopy(t, d)
		}
	}
	d := newDisk(t, 10, "create a", "append a 0123456789").Copy()
	isError(t, d, "append a x", api.ErrRoom)
	isCopy(t, downDisk(t))
	c := downDisk(t).Copy().Copy()
	isTold(t, c, " used 0 steps 6 down true")
	c.Crash([]int{0, 1})
	isTold(t, c, "a=xyz b=v used 4 steps 6 down false")
}

// isCopy tests that a copy of a disk, and one of that, are equal to it.
func isCopy(t *testing.T, d *disk.Disk) {
	t.Helper()
	c := d.Copy()
	if c == d {
		t.Fatal("Copy returns the disk itself")
	}
	if got, want := view(c), view(d); got != want {
		t.Errorf("a copy is\n%s\nwant\n%s", got, want)
	}
}

// P5.6: a file that several names and changes refer to is one file in the copy as well.
func TestCopyKeepsFilesOne(t *testing.T) {
	d := newDisk(t, 20, "create a", "append a xyz", "syncdir", "rename a b", "rename b c")
	c := d.Copy()
	all(t, c, "sync c", "append c uv", "turn c 0 1", "remove c")
	for many, name := range []string{"a", "b", "c"} {
		isAfter(t, c, name+"=yyz", many)
		isAfter(t, c, name+"=yyzu", many, 1)
		isAfter(t, d, name+"=xy", many, 2)
	}
	isAfter(t, c, "", 3)
}

// P5.6, P5.10: nothing that is done to one of two disks affects the other.
func TestCopyApart(t *testing.T) {
	begin := []string{"create a", "append a xyz", "sync a", "create b", "append b v", "syncdir", "append a w", "rename b c", "create d", "remove d", "fuse 20"}
	for _, line := range []string{
		"create e", "append a u", "append c u", "sync a", "sync c", "syncdir", "rename a e", "rename a c", "rename a a", "remove a", "remove c",
		"turn a 0 1", "turn a 3 1", "turn c 0 1", "fuse 1", "fuse 0", "crash", "crash 1 1", "crash 3 1 1", "crash -1 -1 -1",
	} {
		one := newDisk(t, 10, begin...)
		other := one.Copy()
		was := view(one)
		if view(other) != was {
			t.Fatalf("a copy is not equal:\n%s\n%s", view(other), was)
		}
		all(t, other, line)
		if view(one) != was {
			t.Errorf("%s on the copy: the disk is changed", line)
		}
		other = one.Copy()
		all(t, one, line)
		if view(other) != was {
			t.Errorf("%s on the disk: the copy is changed", line)
		}
		// Both go on apart, in the same memory or not.
		all(t, other, "append a 0", "append c 1", "crash 9 9 9")
		third, _ := disk.New(10)
		all(t, third, begin...)
		all(t, third, line)
		if view(one) != view(third) {
			t.Errorf("%s, and then steps on the copy: the disk is changed", line)
		}
	}
}

// P5.6: bytes that are appended to a disk and its copies lie apart, whatever room there is behind the bytes they have in common.
func TestCopyAppendsApart(t *testing.T) {
	d := newDisk(t, 1000, "create a")
	want := ""
	for i := range 100 {
		c := d.Copy()
		all(t, c, "append a c")
		all(t, d, fmt.Sprint("append a ", i%10))
		was := want
		want += fmt.Sprint(i % 10)
		isFiles(t, c, "a="+was+"c")
		isFiles(t, d, "a="+want)
	}
	for kept := range 100 {
		all(t, d, "sync a", "syncdir")
		c := d.Copy()
		c.Crash(nil)
		all(t, c, "append a c")
		isFiles(t, d, "a="+want)
		isFiles(t, c, "a="+want+"c")
		all(t, d, "append a xyz")
		d.Crash([]int{0, kept % 4})
		want += "xyz"[:kept%4]
	}
}

// someCalls does so many calls on d, and returns their lines. None has one of the names in kept, and if there are such names, none is a fuse or a crash.
func someCalls(r *rand.Rand, d *disk.Disk, many int, kept ...string) string {
	var lines []string
	for len(lines) < many {
		line := someCall(r)
		words := strings.Split(line, " ")
		if slices.ContainsFunc(kept, func(name string) bool { return slices.Contains(words[1:], name) }) {
			continue
		}
		if len(kept) > 0 && (words[0] == "crash" || words[0] == "fuse") {
			continue
		}
		do(d, line)
		lines = append(lines, line)
	}
	return strings.Join(lines, "; ")
}

// settled is a disk on which some calls were done, with power and without a fuse.
func settled(t *testing.T, r *rand.Rand) (*disk.Disk, string) {
	d := newDisk(t, 30)
	told := someCalls(r, d, r.IntN(30))
	if d.Down() {
		choices := someChoices(r)
		d.Crash(choices)
		told += "; crash" + choiceWords(choices)
	}
	d.Fuse(0)
	return d, told
}

// P5.7: a file that was synced, and then the directory, keeps these bytes, whatever is done to other names, and whatever is done behind its bytes.
func TestDurability(t *testing.T) {
	r := source()
	for range 6000 {
		d, before := settled(t, r)
		name := []string{"a", "b", "kept"}[r.IntN(3)]
		do(d, "create "+name)
		do(d, "append "+name+" "+"01234567"[:r.IntN(8)])
		want, e := d.Read(name)
		if e != api.OK {
			t.Fatal(e)
		}
		all(t, d, "sync "+name)
		do(d, "append "+name+" more")
		between := someCalls(r, d, r.IntN(8), name)
		all(t, d, "syncdir")
		if r.IntN(2) == 0 {
			d.Fuse(1 + r.IntN(10))
		}
		behind := ""
		for range r.IntN(4) {
			behind += someCalls(r, d, r.IntN(6), name) + "; "
			do(d, "append "+name+" xy")
		}
		choices := someChoices(r)
		d.Crash(choices)
		if got, e := d.Read(name); !strings.HasPrefix(got, want) || e != api.OK {
			t.Fatalf("%s; %s with %q is synced; %s; syncdir; %s; crash%s: %q, %v", before, name, want, between, behind, choiceWords(choices), got, e)
		}
	}
}

// P5.8: a rename of one durable file to the name of another leaves that name with the contents of the one or of the other, and both outcomes occur.
func TestAtomicRename(t *testing.T) {
	r := source()
	outcomes := map[string]int{}
	for range 6000 {
		d, before := settled(t, r)
		for _, name := range []string{"from", "to"} {
			all(t, d, "create "+name)
			do(d, "append "+name+" "+name)
			all(t, d, "sync "+name)
		}
		one, _ := d.Read("from")
		other, _ := d.Read("to")
		all(t, d, "syncdir")
		between := someCalls(r, d, r.IntN(8), "from", "to")
		if r.IntN(3) == 0 {
			d.Fuse(1 + r.IntN(4))
		}
		do(d, "rename from to")
		behind := someCalls(r, d, r.IntN(8), "from", "to")
		choices := someChoices(r)
		d.Crash(choices)
		got, e := d.Read("to")
		_, gone := d.Read("from")
		switch {
		case e == api.OK && got == one && gone == api.ErrNone:
			outcomes["done"]++
		case e == api.OK && got == other && gone == api.OK:
			outcomes["not done"]++
		default:
			t.Fatalf("%s; from with %q and to with %q; %s; rename; %s; crash%s: %q, %v, %v", before, one, other, between, behind, choiceWords(choices), got, e, gone)
		}
	}
	if outcomes["done"] < 500 || outcomes["not done"] < 500 {
		t.Errorf("the outcomes are %v", outcomes)
	}
}

// P5.9: a call that returns an error changes nothing but the power, in states of all kinds; Used exceeds the room behind a crash only.
func TestErrorsChangeNothing(t *testing.T) {
	r := source()
	errors := map[api.Errno]int{}
	for range 300 {
		const room = 6
		d := newDisk(t, room)
		crashed := false
		for range 25 {
			line, c := someCall(r), d.Copy()
			e := do(d, line)
			errors[e]++
			crashed = crashed || strings.HasPrefix(line, "crash")
			if e == api.ErrDown && !c.Down() {
				// What the crash leaves is all that tells.
				for many := range 8 {
					isAfter(t, d, after(c, many, 1, 2), many, 1, 2)
				}
			} else if e != api.OK && view(d) != view(c) {
				t.Errorf("%s: %v, and the disk is changed", line, e)
			}
			if d.Used() > room && !crashed {
				t.Errorf("%s: %d bytes in a room of %d", line, d.Used(), room)
			}
		}
	}
	for _, e := range []api.Errno{api.OK, api.ErrDown, api.ErrArg, api.ErrNone, api.ErrThere, api.ErrRoom} {
		if errors[e] < 50 {
			t.Errorf("only %d calls returned %v", errors[e], e)
		}
	}
}

// P5.10: behind a crash, a second crash changes nothing, whatever its choices; and what was done to a copy doesn't tell.
func TestSecondCrash(t *testing.T) {
	r := source()
	for range 3000 {
		d := newDisk(t, 14)
		lines := someCalls(r, d, r.IntN(40))
		was := view(d)
		c := d.Copy()
		first := someChoices(r)
		c.Crash(first)
		once := told(c)
		for range 4 {
			choices := someChoices(r)
			c.Crash(choices)
			if got := told(c); got != once {
				t.Fatalf("%s; crash%s; crash%s:\n%q, want\n%q", lines, choiceWords(first), choiceWords(choices), got, once)
			}
		}
		someCalls(r, c, 10)
		if view(d) != was {
			t.Fatalf("%s: what was done to a copy changed the disk", lines)
		}
	}
}

// P5.10: with a fuse of n, n - 1 steps are done and no more, whatever calls are made.
func TestFuseOfAnyCalls(t *testing.T) {
	r := source()
	for range 2000 {
		d, before := settled(t, r)
		n, begun := 1+r.IntN(12), d.Steps()
		d.Fuse(n)
		for range 60 {
			line := someCall(r)
			if !strings.HasPrefix(line, "fuse") && !strings.HasPrefix(line, "crash") {
				do(d, line)
			}
			if done := d.Steps() - begun; done > n-1 || d.Down() && done != n-1 {
				t.Fatalf("%s; a fuse of %d: %d steps, %v", before, n, done, d.Down())
			}
		}
		if !d.Down() && d.Steps()-begun < n-1 {
			continue
		}
		if e := d.SyncDir(); e != api.ErrDown || d.Steps()-begun != n-1 {
			t.Errorf("%s; a fuse of %d: %v behind %d steps", before, n, e, d.Steps()-begun)
		}
	}
}
