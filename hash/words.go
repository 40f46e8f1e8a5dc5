package hash

import (
	"math/bits"

	"spence/api"
)

const (
	// blockBytes is how many bytes a block has.
	blockBytes = 64
	// blockWords is how many words a block's bytes are.
	blockWords = 16
	// turnSteps is how many steps a block's turn has.
	turnSteps = 64
)

// words are those that each block turns.
type words [8]uint32

// first are the words that stand before any block.
var first = words{
	0x6a09e667, 0xbb67ae85, 0x3c6ef372, 0xa54ff53a, 0x510e527f, 0x9b05688c, 0x1f83d9ab, 0x5be0cd19,
}

// steps are the words that are added in a block's turn, one a step.
var steps = [turnSteps]uint32{
	0x428a2f98, 0x71374491, 0xb5c0fbcf, 0xe9b5dba5, 0x3956c25b, 0x59f111f1, 0x923f82a4, 0xab1c5ed5,
	0xd807aa98, 0x12835b01, 0x243185be, 0x550c7dc3, 0x72be5d74, 0x80deb1fe, 0x9bdc06a7, 0xc19bf174,
	0xe49b69c1, 0xefbe4786, 0x0fc19dc6, 0x240ca1cc, 0x2de92c6f, 0x4a7484aa, 0x5cb0a9dc, 0x76f988da,
	0x983e5152, 0xa831c66d, 0xb00327c8, 0xbf597fc7, 0xc6e00bf3, 0xd5a79147, 0x06ca6351, 0x14292967,
	0x27b70a85, 0x2e1b2138, 0x4d2c6dfc, 0x53380d13, 0x650a7354, 0x766a0abb, 0x81c2c92e, 0x92722c85,
	0xa2bfe8a1, 0xa81a664b, 0xc24b8b70, 0xc76c51a3, 0xd192e819, 0xd6990624, 0xf40e3585, 0x106aa070,
	0x19a4c116, 0x1e376c08, 0x2748774c, 0x34b0bcb5, 0x391c0cb3, 0x4ed8aa4a, 0x5b9cca4f, 0x682e6ff3,
	0x748f82ee, 0x78a5636f, 0x84c87814, 0x8cc70208, 0x90befffa, 0xa4506ceb, 0xbef9a3f7, 0xc67178f2,
}

// turned is x, right-turned by so many places.
func turned(x uint32, places int) uint32 {
	return bits.RotateLeft32(x, -places)
}

// wordAt is the word that b begins with.
func wordAt(b []byte) uint32 {
	return uint32(b[0])<<24 | uint32(b[1])<<16 | uint32(b[2])<<8 | uint32(b[3])
}

// spread is a block's own sixteen words, and those that they make, one a step.
func spread(block []byte) [turnSteps]uint32 {
	var w [turnSteps]uint32
	for t := range w {
		if t < blockWords {
			w[t] = wordAt(block[4*t:])
			continue
		}
		near, far := w[t-2], w[t-15]
		s1 := turned(near, 17) ^ turned(near, 19) ^ near>>10
		s0 := turned(far, 7) ^ turned(far, 18) ^ far>>3
		w[t] = s1 + w[t-7] + s0 + w[t-16]
	}
	return w
}

// turn turns the words by a block.
func (w *words) turn(block []byte) {
	now := *w
	for t, x := range spread(block) {
		a, b, c := now[0], now[1], now[2]
		e, f, g := now[4], now[5], now[6]
		p := now[7] + (turned(e, 6) ^ turned(e, 11) ^ turned(e, 25)) + (e&f | ^e&g) + steps[t] + x
		q := (turned(a, 2) ^ turned(a, 13) ^ turned(a, 22)) + (a&b | a&c | b&c)
		now = words{p + q, a, b, c, now[3] + p, e, f, g}
	}
	for i, x := range now {
		w[i] += x
	}
}

// sum is the words as bytes.
func (w *words) sum() api.Sum {
	var s api.Sum
	for i := range s {
		s[i] = byte(w[i/4] >> (24 - 8*(i%4)))
	}
	return s
}
