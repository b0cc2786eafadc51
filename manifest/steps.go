package manifest

import (
	"errors"

	"freshet/api"
	"freshet/code"
	"freshet/disk"
	"freshet/edit"
	"freshet/frame"
)

// What the steps are for; the error of a step that fails wraps it.
var (
	errLog    = errors.New("manifest: the edit was not logged")
	errMake   = errors.New("manifest: the new manifest was not made")
	errClear  = errors.New("manifest: the pointer that an earlier roll left was not removed")
	errPoint  = errors.New("manifest: the new pointer was not made")
	errSettle = errors.New("manifest: the directory was not synced")
	errTurn   = errors.New("manifest: the new pointer did not become the current one")
	errTidy   = errors.New("manifest: the other manifests were not removed")
)

// step is one of the things that are done to a disk one after another.
type step struct {
	purpose error
	do      func() api.Errno
}

// failure is why a step failed.
type failure struct {
	purpose error
	number  api.Errno
}

func (f failure) Error() string { return f.purpose.Error() + ": " + f.number.Error() }

func (f failure) Unwrap() []error { return []error{f.purpose, f.number} }

// numberOf returns the number that the error wraps, or OK if there is no error.
func numberOf(err error) api.Errno {
	var n api.Errno
	errors.As(err, &n)
	return n
}

// try does the step, and returns a failure, or nil.
func (s step) try() error {
	if e := s.do(); e != api.OK {
		return failure{s.purpose, e}
	}
	return nil
}

// inTurn does the steps one after another, up to the first that fails.
func inTurn(steps ...step) error {
	for _, s := range steps {
		err := s.try()
		if errors.Is(err, errClear) && errors.Is(err, api.ErrNone) {
			// No earlier roll left a pointer, so there is none to remove.
			continue
		}
		if err != nil {
			return err
		}
	}
	return nil
}

// file is a file of a disk, and what is to be written to it.
type file struct {
	disk        *disk.Disk
	name, bytes string
}

func (f file) create() api.Errno { return f.disk.Create(f.name) }

func (f file) append() api.Errno { return f.disk.Append(f.name, f.bytes) }

func (f file) sync() api.Errno { return f.disk.Sync(f.name) }

func (f file) remove() api.Errno { return f.disk.Remove(f.name) }

// roll writes the version to a new manifest with that number, and makes it the current one.
func roll(d *disk.Disk, number int, v api.Version) error {
	whole, e := framed(edit.Whole(v))
	if e != api.OK {
		return failure{errMake, e}
	}
	to, e := frame.Put(code.PutUint(uint64(number)))
	if e != api.OK {
		return failure{errPoint, e}
	}
	made, current := file{d, manifestName(number), whole}, file{d, fresh, to}
	return inTurn(
		step{errMake, made.create},
		step{errMake, made.append},
		step{errMake, made.sync},
		step{errClear, current.remove},
		step{errPoint, current.create},
		step{errPoint, current.append},
		step{errPoint, current.sync},
		// Both files have to be there whatever a crash takes, ahead of the change by which the one names the other.
		step{errSettle, d.SyncDir},
		step{errTurn, func() api.Errno { return d.Rename(fresh, pointer) }},
		// The manifest that was current is needed for as long as a crash can bring the pointer to it back.
		step{errSettle, d.SyncDir},
		step{errTidy, func() api.Errno { return removeOthers(d, number) }},
	)
}

// removeOthers removes all manifests but the one with that number.
func removeOthers(d *disk.Disk, number int) api.Errno {
	for _, other := range manifests(d) {
		if other == number {
			continue
		}
		if e := d.Remove(manifestName(other)); e != api.OK {
			return e
		}
	}
	return api.OK
}
