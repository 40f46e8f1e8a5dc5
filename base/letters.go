package base

import (
	"spence/api"
)

const (
	// letters are in the order of their values.
	letters = "0123456789abcdfghijklmnpqrsvwxyz"
	// letterBits is how many bits a letter has.
	letterBits = 5
)

// letterValues are the letters' values.
func letterValues() map[rune]int {
	values := map[rune]int{}
	for value, letter := range letters {
		values[letter] = value
	}
	return values
}

// place is the byte of a hash in which a bit of its letter i stands, and where in it.
func place(i, bit int) (at, shift int) {
	n := letterBits*i + bit
	return n / 8, n % 8
}

// valueAt is the value of h's letter i.
func valueAt(h api.Hash, i int) int {
	value := 0
	for bit := range letterBits {
		at, shift := place(i, bit)
		value |= int(h[at]>>shift&1) << bit
	}
	return value
}

// withValue is h, of which letter i was 0, with a letter i of that value.
func withValue(h api.Hash, i, value int) api.Hash {
	for bit := range letterBits {
		at, shift := place(i, bit)
		h[at] |= byte(value>>bit&1) << shift
	}
	return h
}

// ofName says whether a letter may stand in a name.
func ofName(letter rune) bool {
	switch {
	case 'a' <= letter && letter <= 'z', 'A' <= letter && letter <= 'Z', '0' <= letter && letter <= '9':
		return true
	}
	return letter == '.' || letter == '_' || letter == '+' || letter == '-'
}
