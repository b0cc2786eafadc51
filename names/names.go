// Package names holds the names of files that have a number: a prefix that says what they are, and the number in eight decimal digits. It is no layer of its own; layers whose files are named so share it.
package names

import (
	"strconv"
	"strings"
)

// Most is the greatest number that a name has; the least one is 1.
const Most = 99999999

// zeros are as many as a number has digits.
const zeros = "00000000"

// Of returns the name with that prefix and number; it is empty, as no file's name is, if no name has that number.
func Of(prefix string, number int) string {
	if number < 1 || number > Most {
		return ""
	}
	digits := strconv.Itoa(number)
	return prefix + zeros[len(digits):] + digits
}

// Numbers returns the numbers of those names that have the prefix and a number, in the order of the names.
func Numbers(prefix string, names []string) []int {
	var l []int
	for _, name := range names {
		number, err := strconv.Atoi(strings.TrimPrefix(name, prefix))
		// A number can be written in several ways, only one of which is that of a name.
		if err == nil && name == Of(prefix, number) {
			l = append(l, number)
		}
	}
	return l
}
