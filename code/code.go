// Package code is layer 1: numbers and texts as bytes.
package code

import (
	"spence/api"
)

const (
	// maxText is how many bytes a text has at most.
	maxText = 1 << 20
	// maxNumBytes is how many bytes a number has at most.
	maxNumBytes = 6
	// seven are the bits of a number that one of its bytes holds.
	seven = 1<<7 - 1
	// more is what is added to a byte that another one follows.
	more = 1 << 7
)

// isNum says whether n is a number.
func isNum(n int) bool {
	return n >= 0 && n <= api.MaxNum
}

// numAt is the number that b begins with, and how many bytes it has: 0 where there is none.
func numAt(b []byte) (n, size int) {
	for i, x := range b[:min(len(b), maxNumBytes)] {
		n |= int(x&seven) << (7 * i)
		if x&more != 0 {
			continue
		}
		// A last byte of 0 behind others would be a second way to write the number.
		if i > 0 && x == 0 || !isNum(n) {
			return 0, 0
		}
		return n, i + 1
	}
	return 0, 0
}
