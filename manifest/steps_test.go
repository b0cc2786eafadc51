package manifest

import (
	"errors"
	"strings"
	"testing"

	"freshet/api"
	"freshet/disk"
	"freshet/edit"
)

// P15.1, P15.4: which of a roll's steps failed is what its error wraps, beside the number.
func TestWhichStepFailed(t *testing.T) {
	purposes := []error{errLog, errMake, errClear, errPoint, errSettle, errTurn, errTidy}
	for i, want := range []error{errMake, errMake, errMake, errClear, errPoint, errPoint, errPoint, errSettle, errTurn, errSettle, errTidy, nil} {
		d, _ := disk.New(1000)
		for _, name := range []string{"current.new", "man-00000001"} {
			d.Create(name)
		}
		d.Fuse(i + 1)
		err := roll(d, 2, edit.First())
		if want == nil {
			if err != nil || numberOf(err) != api.OK {
				t.Errorf("a roll that nothing kept from its end: %v", err)
			}
			continue
		}
		for _, purpose := range purposes {
			if errors.Is(err, purpose) != (purpose == want) {
				t.Errorf("step %d: %v, want %v", i+1, err, want)
			}
		}
		if numberOf(err) != api.ErrDown || !errors.Is(err, api.ErrDown) || errors.Is(err, api.ErrNone) {
			t.Errorf("step %d has the number %v", i+1, numberOf(err))
		}
		if s := err.Error(); !strings.Contains(s, want.Error()) || !strings.Contains(s, api.ErrDown.Error()) {
			t.Errorf("step %d has the text %q", i+1, s)
		}
	}
}

// P15.3: which of the steps of Log failed, and that no step behind it is done.
func TestStepsInTurn(t *testing.T) {
	for failing := range 4 {
		for _, e := range []api.Errno{api.ErrNone, api.ErrRoom, api.ErrDown} {
			for _, purpose := range []error{errLog, errClear} {
				done := 0
				var steps []step
				for i := range 3 {
					steps = append(steps, step{purpose, func() api.Errno {
						done++
						if i == failing {
							return e
						}
						return api.OK
					}})
				}
				err := inTurn(steps...)
				// That there is nothing to clear keeps no further step from being done.
				if failing == 3 || purpose == errClear && e == api.ErrNone {
					if err != nil || done != 3 {
						t.Errorf("%d steps were done: %v", done, err)
					}
					continue
				}
				if !errors.Is(err, purpose) || numberOf(err) != e || done != failing+1 {
					t.Errorf("step %d fails by %v: %d steps were done: %v", failing, e, done, err)
				}
			}
		}
	}
}

// P15.1: a version that no frame can hold is told of ahead of all steps.
func TestRollOfLongVersion(t *testing.T) {
	v := edit.First()
	v.Next, v.Seq = 1000, 9
	for i := range 64 {
		key := string([]byte{byte(1 + i)}) + strings.Repeat("k", 519)
		v.Levels[1] = append(v.Levels[1], api.Meta{Number: uint64(1 + i), Size: 1, Rows: 1, First: key, Last: key, Least: 1, Greatest: 1})
	}
	if !edit.Right(v) {
		t.Fatal("the version is not valid")
	}
	d, _ := disk.New(1000000)
	err := roll(d, 2, v)
	if !errors.Is(err, errMake) || numberOf(err) != api.ErrLong || d.Steps() != 0 {
		t.Errorf("a roll of %d tables: %v, with %d steps", len(v.Levels[1]), err, d.Steps())
	}
}
