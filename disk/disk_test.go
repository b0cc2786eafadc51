package disk_test

import (
	"math"
	"slices"
	"strconv"
	"strings"
	"testing"
	"unsafe"

	"freshet/api"
	"freshet/disk"
)

const maxRoom = 1 << 28

// P5.1: rooms that are valid, and those beside them.
func TestNew(t *testing.T) {
	for _, room := range []int{0, 1, 10, maxRoom - 1, maxRoom} {
		if d, e := disk.New(room); d == nil || e != api.OK {
			t.Errorf("New(%d): %v, %v", room, d, e)
		}
	}
	for _, room := range []int{-1, -2, -10, maxRoom + 1, 1 << 32, 1<<32 + 1, math.MaxInt, math.MinInt} {
		if d, e := disk.New(room); d != nil || e != api.ErrArg {
			t.Errorf("New(%d): %v, %v", room, d, e)
		}
	}
}

// P5.1: a new disk has no names, no pending changes, no fuse.
func TestNewIsEmpty(t *testing.T) {
	for _, room := range []int{0, 10, maxRoom} {
		d := newDisk(t, room)
		if got := told(d); got != " used 0 steps 0 down false" {
			t.Errorf("a new disk tells %q", got)
		}
		c := d.Copy()
		c.Crash([]int{1, 1, 1})
		if got := told(c); got != " used 0 steps 0 down false" {
			t.Errorf("a new disk that crashed tells %q", got)
		}
		for range 100 {
			all(t, d, "syncdir")
		}
	}
}

// P5.1, P5.2: the room is the one that was asked for.
func TestRooms(t *testing.T) {
	d := newDisk(t, 0, "create a", "append a ")
	isError(t, d, "append a x", api.ErrRoom)
	isTold(t, d, "a= used 0 steps 2 down false")
	d = newDisk(t, 10, "create a", "append a 0123456789", "append a ")
	isError(t, d, "append a x", api.ErrRoom)
	isTold(t, d, "a=0123456789 used 10 steps 3 down false")
	d = newDisk(t, maxRoom)
	part := strings.Repeat("x", maxRoom/16)
	for i := range 16 {
		name := strconv.Itoa(i)
		all(t, d, "create "+name, "append "+name+" "+part)
	}
	if e := d.Append("0", "x"); e != api.ErrRoom {
		t.Errorf("Append of a byte to a disk of the greatest room that is full: %v", e)
	}
	if d.Used() != maxRoom || d.Append("0", "") != api.OK {
		t.Errorf("the greatest room: %d used", d.Used())
	}
}

// isTold tests what a disk tells.
func isTold(t *testing.T, d system, want string) {
	t.Helper()
	if got := told(d); got != want {
		t.Errorf("the disk tells %q, want %q", got, want)
	}
}

// allowed are the bytes that may stand in a name.
const allowed = "abcdefghijklmnopqrstuvwxyz0123456789-."

// isName tests whether Create and Rename take a name.
func isName(t *testing.T, name string, want bool) {
	t.Helper()
	e := api.ErrArg
	if want {
		e = api.OK
	}
	d := newDisk(t, 10)
	if got := d.Create(name); got != e {
		t.Errorf("Create(%q): %v, want %v", name, got, e)
	}
	if l := d.Names(); slices.Contains(l, name) != want || len(l) != d.Steps() {
		t.Errorf("Create(%q): the names are %q", name, l)
	}
	d = newDisk(t, 10, "create old.name", "append old.name xyz")
	if got := d.Rename("old.name", name); got != e {
		t.Errorf("Rename to %q: %v, want %v", name, got, e)
	}
	if l := d.Names(); len(l) != 1 || (l[0] == name) != want || (l[0] == "old.name") == want {
		t.Errorf("Rename to %q: the names are %q", name, l)
	}
}

// P5.2, P5.3: names of every byte, alone and in each place of a longer name.
func TestNameBytes(t *testing.T) {
	for i := range 256 {
		c := string([]byte{byte(i)})
		ok := strings.Contains(allowed, c)
		isName(t, c, ok)
		isName(t, c+"ab", ok)
		isName(t, "a"+c+"b", ok)
		isName(t, "ab"+c, ok)
		isName(t, strings.Repeat(c, 32), ok)
		isName(t, strings.Repeat("z", 31)+c, ok)
	}
}

// P5.2, P5.3: names of all lengths, and ordinary ones.
func TestNameLengths(t *testing.T) {
	isName(t, "", false)
	for n := 1; n <= 32; n++ {
		isName(t, strings.Repeat("a", n), true)
		isName(t, strings.Repeat(".", n), true)
	}
	for _, n := range []int{33, 34, 64, 255, 256, 257, 288, 1 << 20} {
		isName(t, strings.Repeat("a", n), false)
		isName(t, strings.Repeat("-", n), false)
	}
	for _, name := range []string{"log-00000001", "current", "current.new", ".", "..", "-", "0", "tab-12345678", "a.b-c.9", allowed[:32], allowed[6:]} {
		isName(t, name, true)
	}
	for _, name := range []string{"A", "Current", "a b", " a", "a ", "a/b", "/", "a_b", "é", "a\x00", "\xff", allowed, "a\n", "1,5"} {
		isName(t, name, false)
	}
}

// P5.2: the errors of Create, in their order; a call with an error changes nothing.
func TestCreateErrors(t *testing.T) {
	d := newDisk(t, 10, "create a", "append a x")
	isError(t, d, "create ", api.ErrArg)
	isError(t, d, "create A", api.ErrArg)
	isError(t, d, "create "+strings.Repeat("a", 33), api.ErrArg)
	isError(t, d, "create a", api.ErrThere)
	isFiles(t, d, "a=x")
}

// fullDirectory returns a disk with 4096 names, and these.
func fullDirectory(t *testing.T) (*disk.Disk, []string) {
	d := newDisk(t, 10)
	var l []string
	for i := range 4096 {
		// Written so, the names are not in the order in which they are created.
		l = append(l, strconv.Itoa(i))
		all(t, d, "create "+l[i])
	}
	slices.Sort(l)
	return d, l
}

// P5.2, P5.4: as many names as a directory may have, and one more.
func TestMostNames(t *testing.T) {
	d, l := fullDirectory(t)
	for name, e := range map[string]api.Errno{"one-more": api.ErrRoom, "4096": api.ErrRoom, "7": api.ErrThere, "4095": api.ErrThere, "A": api.ErrArg, "": api.ErrArg} {
		if got := d.Create(name); got != e {
			t.Errorf("Create(%q) with 4096 names: %v, want %v", name, got, e)
		}
	}
	if got := d.Names(); !slices.Equal(got, l) || d.Steps() != 4096 {
		t.Errorf("4096 names, sorted: %d names, %d steps", len(got), d.Steps())
	}
	// All other steps are done as ever.
	all(t, d, "append 7 x", "rename 7 seven", "rename seven seven", "sync seven", "syncdir")
	if e := d.Create("7"); e != api.ErrRoom {
		t.Errorf("Create with 4096 names behind Rename: %v", e)
	}
	all(t, d, "rename seven 8", "create 7")
	if e := d.Create("seven"); e != api.ErrRoom {
		t.Errorf("Create with 4096 names again: %v", e)
	}
	all(t, d, "remove 9", "create seven")
	if e := d.Create("9"); e != api.ErrRoom || len(d.Names()) != 4096 {
		t.Errorf("Create with 4096 names once more: %v, %d names", e, len(d.Names()))
	}
}

// P5.2: names that a crash brings back count.
func TestMostNamesAfterCrash(t *testing.T) {
	d, l := fullDirectory(t)
	all(t, d, "syncdir", "remove 5", "create five")
	c := d.Copy()
	c.Crash([]int{1})
	all(t, c, "create 5.new")
	if e := c.Create("5"); e != api.ErrRoom {
		t.Errorf("Create with 4096 names: %v", e)
	}
	d.Crash(nil)
	if e := d.Create("five"); e != api.ErrRoom || !slices.Equal(d.Names(), l) {
		t.Errorf("Create with 4096 names of which one came back: %v, %d names", e, len(d.Names()))
	}
}

// P5.2: the errors of Append, in their order.
func TestAppendErrors(t *testing.T) {
	d := newDisk(t, 10, "create a", "create b", "append b xyz")
	isError(t, d, "append c x", api.ErrNone)
	isError(t, d, "append A x", api.ErrNone)
	isError(t, d, "append  x", api.ErrNone)
	isError(t, d, "append c 01234567890", api.ErrNone)
	isError(t, d, "append a 01234567", api.ErrRoom)
	isError(t, d, "append b 01234567", api.ErrRoom)
	isFiles(t, d, "a= b=xyz")
}

// P5.2: Append up to the room, and one byte beyond it; the bytes of all files count.
func TestAppend(t *testing.T) {
	d := newDisk(t, 10, "create a")
	isError(t, d, "append a 01234567890", api.ErrRoom)
	all(t, d, "append a 01234", "append a ", "create b", "append b 5678")
	isError(t, d, "append a xy", api.ErrRoom)
	isError(t, d, "append b xy", api.ErrRoom)
	all(t, d, "append a 9")
	isError(t, d, "append a x", api.ErrRoom)
	isError(t, d, "append b x", api.ErrRoom)
	all(t, d, "append b ")
	isTold(t, d, "a=012349 b=5678 used 10 steps 7 down false")
}

// P5.2, P5.4: every byte may stand in a file, and long data as well.
func TestAppendOfAllBytes(t *testing.T) {
	var b []byte
	for i := range 256 {
		b = append(b, byte(i))
	}
	want := ""
	d := newDisk(t, 1<<20, "create a", "create b")
	for _, data := range []string{string(b), "", "\x00", "\xff\xff", strings.Repeat(string(b), 100), "é€\xc3(", "the end"} {
		if e := d.Append("a", data); e != api.OK {
			t.Fatal(e)
		}
		want += data
		if got, e := d.Read("a"); got != want || e != api.OK {
			t.Errorf("Read: %d bytes, %v, want %d bytes", len(got), e, len(want))
		}
		if d.Used() != len(want) {
			t.Errorf("Used: %d, want %d", d.Used(), len(want))
		}
	}
	isTold(t, d, "a="+want+" b= used "+strconv.Itoa(len(want))+" steps 9 down false")
}

// P5.2, P5.3: the errors of Sync, SyncDir and Remove.
func TestSyncRemoveErrors(t *testing.T) {
	d := newDisk(t, 10, "create a", "append a xyz", "create b", "remove b")
	for _, name := range []string{"b", "c", "A", "", strings.Repeat("a", 33)} {
		isError(t, d, "sync "+name, api.ErrNone)
		isError(t, d, "remove "+name, api.ErrNone)
		isError(t, d, "read "+name, api.ErrNone)
	}
	isFiles(t, d, "a=xyz")
}

// P5.3: the errors of Rename, in their order.
func TestRenameErrors(t *testing.T) {
	d := newDisk(t, 10, "create a", "append a xyz", "create b", "append b v")
	isError(t, d, "rename c b", api.ErrNone)
	isError(t, d, "rename c c", api.ErrNone)
	isError(t, d, "rename c A", api.ErrNone)
	isError(t, d, "rename  ", api.ErrNone)
	isError(t, d, "rename A A", api.ErrNone)
	for _, to := range []string{"", "A", "a_b", strings.Repeat("a", 33)} {
		isError(t, d, "rename a "+to, api.ErrArg)
	}
	isFiles(t, d, "a=xyz b=v")
}

// P5.3: Rename to a new name, to one that exists, and to itself; the file keeps its bytes, and takes more of them.
func TestRename(t *testing.T) {
	d := newDisk(t, 10, "create a", "append a xyz", "create b", "append b vw")
	all(t, d, "rename a c")
	isTold(t, d, "b=vw c=xyz used 5 steps 5 down false")
	isError(t, d, "read a", api.ErrNone)
	all(t, d, "rename c b")
	isTold(t, d, "b=xyz used 3 steps 6 down false")
	all(t, d, "rename b b")
	isTold(t, d, "b=xyz used 3 steps 7 down false")
	all(t, d, "append b 0123456", "create a", "rename a b")
	isTold(t, d, "b= used 0 steps 10 down false")
	all(t, d, "append b 0123456789")
	isError(t, d, "append b x", api.ErrRoom)
}

// P5.3: a file without a name does not count towards the room, whether it was removed or lost its name to another one.
func TestRoomWithoutName(t *testing.T) {
	d := newDisk(t, 10, "create a", "append a 01234567", "sync a", "syncdir", "create b", "append b xy")
	isError(t, d, "append b z", api.ErrRoom)
	all(t, d, "remove a")
	isTold(t, d, "b=xy used 2 steps 7 down false")
	all(t, d, "append b 01234567", "create a")
	isError(t, d, "append a x", api.ErrRoom)
	isTold(t, d, "a= b=xy01234567 used 10 steps 9 down false")
	all(t, d, "rename a b", "append b abcdefghij")
	isTold(t, d, "b=abcdefghij used 10 steps 11 down false")
	// A name that is created again has a file of its own.
	all(t, d, "remove b", "create b", "append b x")
	isTold(t, d, "b=x used 1 steps 14 down false")
}

// P5.4: names in ascending order, in whichever order they are created.
func TestNamesSorted(t *testing.T) {
	l := []string{"b", "a", "ab", "a.b", "a-b", "0", "9", "z", "-", ".", "a0", "aa", "log-00000002", "log-00000010", "log-1", strings.Repeat("a", 32)}
	d := newDisk(t, 10)
	for i, name := range l {
		all(t, d, "create "+name)
		want := slices.Sorted(slices.Values(l[:i+1]))
		if got := d.Names(); !slices.Equal(got, want) {
			t.Errorf("Names: %q, want %q", got, want)
		}
	}
	// These compare as bytes: the hyphen is ahead of the period, both ahead of digits, and these ahead of letters.
	all(t, d, "rename b zz", "remove 9")
	if got, want := strings.Join(d.Names(), " "), "- . 0 a a-b a.b a0 aa "+strings.Repeat("a", 32)+" ab log-00000002 log-00000010 log-1 z zz"; got != want {
		t.Errorf("Names: %q, want %q", got, want)
	}
}

// P5.4: Steps counts the steps that returned OK, and nothing else; no crash takes it back.
func TestSteps(t *testing.T) {
	d := newDisk(t, 10)
	for i, x := range []struct {
		line  string
		steps int
	}{
		{"create a", 1}, {"create a", 1}, {"append a xyz", 2}, {"append b x", 2}, {"append a 01234567", 2}, {"append a ", 3}, {"sync a", 4}, {"sync b", 4}, {"syncdir", 5}, {"syncdir", 6}, {"rename a b", 7}, {"rename b b", 8}, {"rename a b", 8}, {"rename b A", 8}, {"read b", 8}, {"turn b 0 1", 8}, {"fuse 9", 8}, {"fuse 0", 8}, {"remove a", 8}, {"remove b", 9}, {"crash", 9}, {"crash 1 1", 9}, {"syncdir", 10}, {"fuse 1", 10}, {"syncdir", 10}, {"create c", 10}, {"crash", 10}, {"create c", 11},
	} {
		do(d, x.line)
		if d.Steps() != x.steps {
			t.Errorf("call %d, %s: %d steps, want %d", i, x.line, d.Steps(), x.steps)
		}
	}
}

// downDisk returns a disk that is down; it has the files a with xyz and b with v, both durable, 6 steps, and a pending change.
func downDisk(t *testing.T) *disk.Disk {
	d := newDisk(t, 10, "create a", "append a xyz", "sync a", "create b", "syncdir", "append b v", "fuse 1")
	if e := d.Remove("a"); e != api.ErrDown {
		t.Fatal(e)
	}
	return d
}

// P5.2 to P5.6: on a disk that is down, ErrDown comes ahead of all other errors, and Names and Used tell nothing.
func TestDown(t *testing.T) {
	d := downDisk(t)
	isTold(t, d, " used 0 steps 6 down true")
	if l := d.Names(); len(l) != 0 {
		t.Errorf("Names of a disk that is down: %q", l)
	}
	for _, line := range []string{
		"create c", "create a", "create A", "create ", "append a x", "append c x", "append a 0123456789", "sync a", "sync c", "syncdir",
		"rename a b", "rename a a", "rename c a", "rename a A", "remove a", "remove c", "read a", "read c", "turn a 0 1", "turn a 3 1", "turn c 0 1",
	} {
		isError(t, d, line, api.ErrDown)
	}
	if b, e := d.Read("a"); b != "" || e != api.ErrDown {
		t.Errorf("Read on a disk that is down: %q, %v", b, e)
	}
	d.Crash([]int{0, 1})
	isTold(t, d, "a=xyz b=v used 4 steps 6 down false")
}

// noDisk tests all calls on a disk that is not there.
func noDisk(t *testing.T, d *disk.Disk) {
	for _, line := range []string{
		"create a", "create A", "append a x", "append  ", "sync a", "syncdir", "rename a b", "rename a a", "rename a A", "remove a", "read a", "turn a 0 1", "turn a -1 0",
	} {
		if e := do(d, line); e != api.ErrNil {
			t.Errorf("%s: %v, want ErrNil", line, e)
		}
		if b, e := d.Read("a"); b != "" || e != api.ErrNil {
			t.Errorf("Read behind %s: %q, %v", line, b, e)
		}
		if l := d.Names(); len(l) != 0 || d.Used() != 0 || d.Steps() != 0 || d.Down() {
			t.Errorf("%s: %q, %d, %d, %v", line, l, d.Used(), d.Steps(), d.Down())
		}
		if c := d.Copy(); c != nil {
			t.Errorf("%s: Copy is %v, want nil", line, c)
		}
		for n := range 3 {
			d.Fuse(n - 1)
		}
		d.Crash(nil)
		d.Crash([]int{1, 2, -3})
	}
}

// P5.2 to P5.6 and the rules that hold everywhere: a nil disk, a zero disk, and the disk that New returns with an error.
func TestNilDisk(t *testing.T) {
	noDisk(t, nil)
	noDisk(t, &disk.Disk{})
	noDisk(t, new(disk.Disk))
	none, _ := disk.New(-1)
	noDisk(t, none)
	noDisk(t, none.Copy())
}

// shares tells whether two strings lie in the same memory.
func shares(a, b string) bool {
	if a == "" || b == "" {
		return false
	}
	p, q := uintptr(unsafe.Pointer(unsafe.StringData(a))), uintptr(unsafe.Pointer(unsafe.StringData(b)))
	return p < q+uintptr(len(b)) && q < p+uintptr(len(a))
}

// The rules that hold everywhere: results share no memory with each other.
func TestNewMemory(t *testing.T) {
	d := newDisk(t, 100, "create name-1", "append name-1 some-bytes", "create name-2", "rename name-2 name-3")
	one, _ := d.Read("name-1")
	again, _ := d.Read("name-1")
	if shares(one, again) {
		t.Error("two results of Read share memory")
	}
	c := d.Copy()
	if b, _ := c.Read("name-1"); shares(one, b) || b != one {
		t.Error("results of Read of a disk and its copy share memory")
	}
	l, m, k := d.Names(), d.Names(), c.Names()
	for i := range l {
		if shares(l[i], m[i]) || shares(l[i], k[i]) {
			t.Error("two results of Names share memory")
		}
	}
	l[0], l[1] = "other", "names"
	if got := strings.Join(d.Names(), " "); got != "name-1 name-3" {
		t.Errorf("Names behind a change of what it returned: %q", got)
	}
}

// The rules that hold everywhere: arguments are not kept. The strings here lie in memory that is changed behind each call.
func TestArgumentsNotKept(t *testing.T) {
	var memory []byte
	say := func(s string) string {
		memory = []byte(s)
		return unsafe.String(unsafe.SliceData(memory), len(memory))
	}
	spoil := func() {
		for i := range memory {
			memory[i] = 'q'
		}
	}
	d := newDisk(t, 100)
	for _, name := range []string{"aa", "bb", "cc"} {
		d.Create(say(name))
		spoil()
		d.Append(name, say("bytes of "+name))
		spoil()
		d.Sync(say(name))
		spoil()
	}
	all(t, d, "syncdir")
	d.Rename("aa", say("dd"))
	spoil()
	d.Rename(say("dd"), "ee")
	spoil()
	d.Remove(say("bb"))
	spoil()
	isFiles(t, d, "cc=bytes of cc ee=bytes of aa")
	for many, want := range []string{"aa=bytes of aa bb=bytes of bb cc=bytes of cc", "bb=bytes of bb cc=bytes of cc dd=bytes of aa", "bb=bytes of bb cc=bytes of cc ee=bytes of aa", "cc=bytes of cc ee=bytes of aa"} {
		c := d.Copy()
		c.Crash([]int{many})
		isFiles(t, c, want)
	}
}

// P2: the same calls have the same results, and reading changes nothing.
func TestSameAgain(t *testing.T) {
	for seed := range 50 {
		var views []string
		for range 3 {
			r := source()
			d := newDisk(t, 14)
			for range seed {
				do(d, someCall(r))
				told(d)
			}
			views = append(views, view(d), view(d))
		}
		if len(slices.Compact(views)) != 1 {
			t.Errorf("%d calls have unlike results", seed)
		}
	}
}
