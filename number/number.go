// Package number reads numbers, as they are written everywhere: in decimal digits, without needless zeros.
package number

import "strconv"

// Read a number that is not below 0, and has no more than so many digits. One is read only if it would be written so.
func Read(digits string, most int) (int, bool) {
	if len(digits) > most {
		return 0, false
	}
	n, err := strconv.Atoi(digits)
	if err != nil || n < 0 || strconv.Itoa(n) != digits {
		return 0, false
	}
	return n, true
}
