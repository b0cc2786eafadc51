package block

import (
	"strings"

	"freshet/api"
	"freshet/code"
)

const (
	// numberBytes is how many bytes each number behind the rows has.
	numberBytes = 4
	// endBytes is how many bytes the third part of a block has: the number of restarts, and the restart interval.
	endBytes = 2 * numberBytes
)

// decode returns the rows whose block s is, and their restart interval.
func decode(s string) (l []api.Row, restart int, e api.Errno) {
	var restarts strings.Builder
	rows, restart, ok := parts(s)
	if !ok {
		goto failed
	}
	for rest := rows; rest != ""; {
		var r api.Row
		previous := ""
		if len(l)%restart > 0 {
			previous = l[len(l)-1].Key
		} else {
			restarts.WriteString(putNumber(len(rows) - len(rest)))
		}
		if r, rest, ok = cutRow(rest, previous); !ok || len(l) == mostRows {
			goto failed
		}
		l = append(l, r)
	}
	// All that is behind the rows follows from them and the restart interval.
	if !Order(l) || s[len(rows):] != behind(restarts.String(), restart) {
		goto failed
	}
	return l, restart, api.OK
failed:
	return nil, 0, api.ErrForm
}

// parts returns the first part of a block, and the restart interval.
func parts(s string) (rows string, restart int, ok bool) {
	if len(s) < endBytes || len(s) > api.MaxFrame {
		return "", 0, false
	}
	end := len(s) - endBytes
	many, interval := number(s[end:]), number(s[end+numberBytes:])
	if many > uint32(end/numberBytes) || interval < 1 || interval > mostRestart {
		return "", 0, false
	}
	return s[:end-int(many)*numberBytes], int(interval), true
}

// cutRow reads the row at the start of s, whose key shares leading bytes with the previous one; rest is what is behind it.
func cutRow(s, previous string) (r api.Row, rest string, ok bool) {
	var shared uint64
	var different string
	if shared, s, ok = cutNumber(s); !ok || shared > uint64(len(previous)) {
		goto failed
	}
	if different, s, ok = cutField(s, api.MaxKey); !ok || common(previous[shared:], different) > 0 {
		goto failed
	}
	// A key that is the same as the previous one would share its memory.
	r.Key = strings.Clone(previous[:shared] + different)
	if r.Seq, s, ok = cutNumber(s); !ok || s == "" {
		goto failed
	}
	r.Kind, s = int(s[0]), s[1:]
	if r.Kind == api.WritePut {
		if r.Value, s, ok = cutField(s, api.MaxValue); !ok {
			goto failed
		}
	}
	if Check(r) != api.OK {
		goto failed
	}
	return r, s, true
failed:
	return api.Row{}, "", false
}

// cutNumber reads the short number at the start of s; rest is what is behind it.
func cutNumber(s string) (n uint64, rest string, ok bool) {
	n, size, e := code.Uint(s)
	return n, s[size:], e == api.OK
}

// cutField reads the field at the start of s; rest is what is behind it.
func cutField(s string, most int) (t, rest string, ok bool) {
	t, size, e := code.Field(s, most)
	return t, s[size:], e == api.OK
}

// behind returns the parts of a block that are behind its rows: the offsets of the restarts, as numbers, how many there are, and the restart interval.
func behind(restarts string, restart int) string {
	return restarts + putNumber(len(restarts)/numberBytes) + putNumber(restart)
}

// putNumber returns the bytes of n, the lowest one first.
func putNumber(n int) string {
	return string([]byte{byte(n), byte(n >> 8), byte(n >> 16), byte(n >> 24)})
}

// number returns the number whose bytes are at the start of s.
func number(s string) uint32 {
	return uint32(s[0]) | uint32(s[1])<<8 | uint32(s[2])<<16 | uint32(s[3])<<24
}
