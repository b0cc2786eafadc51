package wal

import (
	"errors"
	"strings"
	"testing"

	"freshet/api"
	"freshet/disk"
)

// P7.1: each error of opening is a failure, which wraps its number.
func TestFailures(t *testing.T) {
	full, _ := disk.New(0)
	down, _ := disk.New(1000)
	down.Fuse(1)
	down.SyncDir()
	fuse, _ := disk.New(1000)
	fuse.Fuse(2)
	corrupt, _ := disk.New(1000)
	corrupt.Create("log-00000002")
	for _, x := range []struct {
		d    *disk.Disk
		from int
		want api.Errno
	}{{nil, 1, api.ErrNil}, {down, 1, api.ErrDown}, {full, 0, api.ErrArg}, {full, 1, api.ErrRoom}, {fuse, 1, api.ErrDown}, {corrupt, 1, api.ErrCorrupt}} {
		l, batches, err := open(x.d, x.from)
		var f failure
		var number api.Errno
		if l != nil || batches != nil || !errors.As(err, &f) || f.number != x.want || !errors.As(err, &number) || number != x.want || !errors.Is(err, x.want) {
			t.Errorf("open: %v, %v, %v, want %v", l, batches, err, x.want)
		}
		if !strings.Contains(err.Error(), x.want.Error()) {
			t.Errorf("the error's text is %q", err)
		}
	}
	l, _, err := open(corrupt, 2)
	if l == nil || err != nil {
		t.Errorf("open: %v, %v", l, err)
	}
}
