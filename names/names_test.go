package names_test

import (
	"fmt"
	"math"
	"slices"
	"strings"
	"testing"

	"freshet/names"
)

// The names of P7.1, P15.1: a prefix, and eight digits.
func TestOf(t *testing.T) {
	for _, number := range []int{1, 2, 9, 10, 99, 100, 12345, 1234567, 9999999, 10000000, 12345678, 99999998, 99999999} {
		for _, prefix := range []string{"", "log-", "man-", "1", "part-"} {
			want := fmt.Sprintf("%s%08d", prefix, number)
			if got := names.Of(prefix, number); got != want || len(got) != len(prefix)+8 {
				t.Errorf("Of(%q, %d) = %q, want %q", prefix, number, got, want)
			}
			if l := names.Numbers(prefix, []string{want}); !slices.Equal(l, []int{number}) {
				t.Errorf("Numbers of %q is %d, want %d", want, l, number)
			}
		}
	}
	for _, number := range []int{0, -1, -99999999, 100000000, 100000001, 999999999, 1 << 32, 1<<32 + 1, math.MaxInt, math.MinInt} {
		if got := names.Of("log-", number); got != "" {
			t.Errorf("Of(log-, %d) = %q, want none", number, got)
		}
	}
}

// P7.1, P15.1: names that are nearly those of numbered files.
func TestOtherNames(t *testing.T) {
	for _, name := range []string{
		"", "log-", "log", "log-1", "log-0000001", "log-000000001", "log-00000000", "log-100000000", "log-100000001", "log--0000001", "log-+0000001", "log--00000001", "log-+00000001",
		"log-0000000a", "log-0x000001", "log-0b000001", "log-1e000000", "log-0000_001", "log-1_000_00", "log-00000001.", ".log-00000001", "log-00000001-", "log- 0000001", "log-0000001 ",
		"log-18446744073709551617", "log-99999999999999999999999", "log-4294967297", "00000001", "man-00000001", "LOG-00000001", "log-log-00000001", "log.00000001", "log00000001", "og-00000001", strings.Repeat("0", 12), "log-\x00\x00\x00\x00\x00\x00\x00\x01", "log-٠٠٠٠٠٠٠١",
	} {
		if l := names.Numbers("log-", []string{name}); len(l) != 0 {
			t.Errorf("Numbers of %q is %d, want none", name, l)
		}
	}
}

// P7.1, P15.1: of several names, in their order, those that have the prefix.
func TestNumbers(t *testing.T) {
	l := []string{"current", "log-00000012", "log-00000003", "log-3", "man-00000001", "log-00000012", "log-99999999", "z"}
	if got := names.Numbers("log-", l); !slices.Equal(got, []int{12, 3, 12, 99999999}) {
		t.Errorf("the numbers are %d", got)
	}
	if got := names.Numbers("man-", l); !slices.Equal(got, []int{1}) {
		t.Errorf("the numbers are %d", got)
	}
	for _, l := range [][]string{nil, {}, {""}, {"a"}} {
		if got := names.Numbers("log-", l); len(got) != 0 {
			t.Errorf("the numbers of %q are %d", l, got)
		}
	}
}
