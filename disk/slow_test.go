package disk_test

import (
	"maps"
	"math/rand/v2"
	"regexp"
	"slices"
	"strconv"
	"strings"
	"testing"

	"freshet/api"
	"freshet/disk"
)

// system is what a disk and a slow one have in common.
type system interface {
	Create(name string) api.Errno
	Append(name, data string) api.Errno
	Sync(name string) api.Errno
	SyncDir() api.Errno
	Rename(from, to string) api.Errno
	Remove(name string) api.Errno
	Read(name string) (string, api.Errno)
	Names() []string
	Used() int
	Steps() int
	Fuse(n int)
	Down() bool
	Crash(choices []int)
	Turn(name string, at int, bits byte) api.Errno
}

// slow is a disk as the chapter tells it: it keeps every state that the directory had since it was last durable, whole.
type slow struct {
	room, steps, fuse int
	down              bool
	// states are of names and the files' numbers: the durable directory first, then one for each pending change.
	states []map[string]int
	files  []slowFile
}

type slowFile struct {
	bytes string
	sure  int
}

var validName = regexp.MustCompile(`\A[a-z0-9.-]{1,32}\z`)

func newSlow(room int) *slow { return &slow{room: room, states: []map[string]int{{}}} }

func (s *slow) names() map[string]int { return s.states[len(s.states)-1] }

func (s *slow) file(name string) *slowFile { return &s.files[s.names()[name]] }

func (s *slow) none(name string) api.Errno {
	if _, ok := s.names()[name]; !ok {
		return api.ErrNone
	}
	return api.OK
}

func (s *slow) step(e api.Errno, do func()) api.Errno {
	if s.down {
		return api.ErrDown
	}
	if e != api.OK {
		return e
	}
	if s.fuse == 1 {
		s.down = true
		return api.ErrDown
	}
	s.fuse = max(s.fuse-1, 0)
	do()
	s.steps++
	return api.OK
}

func (s *slow) change(do func(m map[string]int)) {
	m := maps.Clone(s.names())
	do(m)
	s.states = append(s.states, m)
}

func (s *slow) Create(name string) api.Errno {
	e := api.OK
	if !validName.MatchString(name) {
		e = api.ErrArg
	} else if s.none(name) == api.OK {
		e = api.ErrThere
	} else if len(s.names()) == 4096 {
		e = api.ErrRoom
	}
	return s.step(e, func() {
		s.files = append(s.files, slowFile{})
		s.change(func(m map[string]int) { m[name] = len(s.files) - 1 })
	})
}

func (s *slow) Append(name, data string) api.Errno {
	e := s.none(name)
	if e == api.OK && s.sum()+len(data) > s.room {
		e = api.ErrRoom
	}
	return s.step(e, func() { s.file(name).bytes += data })
}

func (s *slow) Sync(name string) api.Errno {
	return s.step(s.none(name), func() { s.file(name).sure = len(s.file(name).bytes) })
}

func (s *slow) SyncDir() api.Errno {
	return s.step(api.OK, func() { s.states = []map[string]int{s.names()} })
}

func (s *slow) Rename(from, to string) api.Errno {
	e := s.none(from)
	if e == api.OK && !validName.MatchString(to) {
		e = api.ErrArg
	}
	return s.step(e, func() {
		s.change(func(m map[string]int) {
			m[to] = m[from]
			if from != to {
				delete(m, from)
			}
		})
	})
}

func (s *slow) Remove(name string) api.Errno {
	return s.step(s.none(name), func() { s.change(func(m map[string]int) { delete(m, name) }) })
}

func (s *slow) Read(name string) (string, api.Errno) {
	if s.down {
		return "", api.ErrDown
	}
	if e := s.none(name); e != api.OK {
		return "", e
	}
	return s.file(name).bytes, api.OK
}

func (s *slow) Names() []string {
	if s.down {
		return nil
	}
	return slices.Sorted(maps.Keys(s.names()))
}

func (s *slow) sum() int {
	n := 0
	for _, i := range s.names() {
		n += len(s.files[i].bytes)
	}
	return n
}

func (s *slow) Used() int {
	if s.down {
		return 0
	}
	return s.sum()
}

func (s *slow) Steps() int { return s.steps }

func (s *slow) Fuse(n int) {
	if !s.down {
		s.fuse = max(n, 0)
	}
}

func (s *slow) Down() bool { return s.down }

func (s *slow) Crash(choices []int) {
	taken := 0
	choose := func(n int) int {
		taken++
		if taken > len(choices) {
			return 0
		}
		c := choices[taken-1] % n
		if c < 0 {
			c += n
		}
		return c
	}
	m := s.states[choose(len(s.states))]
	s.states, s.fuse, s.down = []map[string]int{m}, 0, false
	for _, name := range s.Names() {
		f := s.file(name)
		if f.sure < len(f.bytes) {
			f.bytes = f.bytes[:f.sure+choose(len(f.bytes)-f.sure+1)]
			f.sure = len(f.bytes)
		}
	}
}

func (s *slow) Turn(name string, at int, bits byte) api.Errno {
	b, e := s.Read(name)
	if e == api.OK && (at < 0 || at >= len(b)) {
		e = api.ErrArg
	}
	if e == api.OK {
		s.file(name).bytes = b[:at] + string([]byte{b[at] ^ bits}) + b[at+1:]
	}
	return e
}

func (s *slow) Copy() *slow {
	c := *s
	c.files = slices.Clone(s.files)
	c.states = slices.Clone(s.states)
	return &c
}

// do does the call that a line tells: its name, and its arguments behind one space each.
func do(d system, line string) api.Errno {
	word := strings.Split(line, " ")
	switch word[0] {
	case "create":
		return d.Create(word[1])
	case "append":
		return d.Append(word[1], word[2])
	case "sync":
		return d.Sync(word[1])
	case "syncdir":
		return d.SyncDir()
	case "rename":
		return d.Rename(word[1], word[2])
	case "remove":
		return d.Remove(word[1])
	case "read":
		_, e := d.Read(word[1])
		return e
	case "turn":
		return d.Turn(word[1], numbers(word[2:])[0], byte(numbers(word[3:])[0]))
	case "fuse":
		d.Fuse(numbers(word[1:])[0])
	case "crash":
		d.Crash(numbers(word[1:]))
	default:
		panic("no such call: " + line)
	}
	return api.OK
}

func numbers(words []string) []int {
	var l []int
	for _, w := range words {
		n, err := strconv.Atoi(w)
		if err != nil {
			panic(err)
		}
		l = append(l, n)
	}
	return l
}

// all does the calls of the lines; every one has to return OK.
func all(t *testing.T, d system, lines ...string) {
	t.Helper()
	for _, line := range lines {
		if e := do(d, line); e != api.OK {
			t.Fatalf("%s: %v", line, e)
		}
	}
}

// newDisk returns a disk of that room, on which the calls of the lines were done.
func newDisk(t *testing.T, room int, lines ...string) *disk.Disk {
	t.Helper()
	d, e := disk.New(room)
	if d == nil || e != api.OK {
		t.Fatalf("New(%d): %v, %v", room, d, e)
	}
	all(t, d, lines...)
	return d
}

// files tells the directory: a=xyz for the file a with the bytes xyz.
func files(d system) string {
	l := slices.Clone(d.Names())
	for i, name := range l {
		b, e := d.Read(name)
		l[i] = name + "=" + b
		if e != api.OK {
			l[i] = name + ": " + e.Error()
		}
	}
	return strings.Join(l, " ")
}

// isFiles tests what the directory is.
func isFiles(t *testing.T, d system, want string) {
	t.Helper()
	if got := files(d); got != want {
		t.Errorf("the files are %q, want %q", got, want)
	}
}

// told is what a disk tells without being changed.
func told(d system) string {
	return files(d) + " used " + strconv.Itoa(d.Used()) + " steps " + strconv.Itoa(d.Steps()) + " down " + strconv.FormatBool(d.Down())
}

// view is everything that later calls can observe of a disk with few pending changes and few bytes that are not sure: what it tells, its fuse, and what crashes leave of it. The disk isn't changed.
func view(d *disk.Disk) string {
	s := told(d)
	c := d.Copy()
	fuse := 0
	for fuse < 12 && c.SyncDir() == api.OK {
		fuse++
	}
	s += " fuse " + strconv.Itoa(fuse)
	for many := range 6 {
		for n := range 16 {
			c := d.Copy()
			c.Crash([]int{many, n % 4, n / 4})
			s += "; " + told(c)
		}
	}
	return s
}

// isError tests that the call of a line returns e, and that it changes nothing.
func isError(t *testing.T, d *disk.Disk, line string, e api.Errno) {
	t.Helper()
	was := view(d)
	if got := do(d, line); got != e {
		t.Errorf("%s: %v, want %v", line, got, e)
	}
	if is := view(d); is != was {
		t.Errorf("%s: changed\n%s\nto\n%s", line, was, is)
	}
}

// someName returns a name, most often one of a few valid ones.
func someName(r *rand.Rand) string {
	return []string{"a", "a", "b", "b", "c", "d", "a.new", "A", ""}[r.IntN(9)]
}

// someChoices returns choices of all kinds.
func someChoices(r *rand.Rand) []int {
	l := make([]int, r.IntN(5))
	for i := range l {
		switch r.IntN(4) {
		case 0:
			l[i] = int(r.Uint64())
		default:
			l[i] = r.IntN(12) - 3
		}
	}
	return l
}

// choiceWords returns choices as words, each behind a space.
func choiceWords(l []int) string {
	s := ""
	for _, c := range l {
		s += " " + strconv.Itoa(c)
	}
	return s
}

// someCall returns the line of a call; most of them are steps.
func someCall(r *rand.Rand) string {
	switch r.IntN(20) {
	case 0, 1, 2, 3:
		return "create " + someName(r)
	case 4, 5, 6, 7, 8:
		return "append " + someName(r) + " " + "vwxyz"[:r.IntN(6)]
	case 9, 10:
		return "sync " + someName(r)
	case 11, 12:
		return "syncdir"
	case 13, 14, 15:
		return "rename " + someName(r) + " " + someName(r)
	case 16:
		return "remove " + someName(r)
	case 17:
		return "turn " + someName(r) + " " + strconv.Itoa(r.IntN(8)-1) + " " + strconv.Itoa(r.IntN(256))
	case 18:
		return "fuse " + strconv.Itoa(r.IntN(12)-1)
	}
	return "crash" + choiceWords(someChoices(r))
}

// source returns numbers that look random and are the same in each run.
func source() *rand.Rand { return rand.New(rand.NewPCG(9, 10)) }

// same tests that a disk tells the same as the slow one, behind the calls of the lines.
func same(t *testing.T, d *disk.Disk, s *slow, lines []string) {
	t.Helper()
	if got, want := told(d), told(s); got != want {
		t.Fatalf("%s:\n%q, want\n%q", strings.Join(lines, "; "), got, want)
	}
}

// P5.1 to P5.6, P5.9, P5.10: sequences of calls of all kinds, each held against the slow disk; behind each call, a copy crashes.
func TestHeldAgainstSlowDisk(t *testing.T) {
	r := source()
	errors := map[api.Errno]int{}
	for range 4000 {
		room := []int{0, 5, 14, 14, 100}[r.IntN(5)]
		d, s := newDisk(t, room), newSlow(room)
		var lines []string
		for range 40 {
			lines = append(lines, someCall(r))
			last := lines[len(lines)-1]
			got, want := do(d, last), do(s, last)
			if got != want {
				t.Fatalf("%s: %v, want %v", strings.Join(lines, "; "), got, want)
			}
			errors[got]++
			same(t, d, s, lines)
			crashed, crashedSlow, choices := d.Copy(), s.Copy(), someChoices(r)
			crashed.Crash(choices)
			crashedSlow.Crash(choices)
			same(t, crashed, crashedSlow, append(lines, "a copy: crash"+choiceWords(choices)))
			same(t, d, s, lines)
		}
	}
	for _, e := range []api.Errno{api.OK, api.ErrDown, api.ErrArg, api.ErrNone, api.ErrThere, api.ErrRoom} {
		if errors[e] < 1000 {
			t.Errorf("only %d calls returned %v", errors[e], e)
		}
	}
}

// P5.1 to P5.6, P5.9, P5.10: all short sequences of the calls that matter, and all crashes behind them.
func TestEveryShortSequence(t *testing.T) {
	calls := []string{"create a", "create b", "append a xy", "append b z", "sync a", "syncdir", "rename a b", "rename b a", "rename a a", "remove a", "fuse 2"}
	var lines []string
	var walk func(d *disk.Disk, s *slow, more int)
	walk = func(d *disk.Disk, s *slow, more int) {
		for many := range 5 {
			for n := range 6 {
				c, k, choices := d.Copy(), s.Copy(), []int{many, n % 3, n / 3}
				c.Crash(choices)
				k.Crash(choices)
				same(t, c, k, append(lines, "crash"+choiceWords(choices)))
			}
		}
		for _, line := range calls {
			if more == 0 {
				return
			}
			lines = append(lines, line)
			c, k := d.Copy(), s.Copy()
			if got, want := do(c, line), do(k, line); got != want {
				t.Fatalf("%s: %v, want %v", strings.Join(lines, "; "), got, want)
			}
			same(t, c, k, lines)
			walk(c, k, more-1)
			lines = lines[:len(lines)-1]
		}
	}
	walk(newDisk(t, 5), newSlow(5), 4)
	walk(newDisk(t, 5, "create a", "append a xy", "create b", "append b z"), slowWith(t, "create a", "append a xy", "create b", "append b z"), 3)
}

// slowWith returns a slow disk of room 5 on which the calls of the lines were done.
func slowWith(t *testing.T, lines ...string) *slow {
	s := newSlow(5)
	all(t, s, lines...)
	return s
}
