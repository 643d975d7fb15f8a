// Package number: numbers in texts, for the packages that read them.
package number

import "strconv"

// maxBytes is how many bytes a number in a text has at most, a - among them.
const maxBytes = 9

// Read answers the number that s is written for, and whether it is one.
func Read(s string) (int, bool) {
	if len(s) > maxBytes {
		return 0, false
	}
	n, err := strconv.Atoi(s)
	// Atoi reads more than there should be: a + ahead, a needless 0, -0.
	if err != nil || strconv.Itoa(n) != s {
		return 0, false
	}
	return n, true
}
