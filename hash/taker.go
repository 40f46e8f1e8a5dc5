package hash

import (
	"spence/api"
	"spence/code"
)

// countBytes is how many bytes tell, at the end, how much was taken.
const countBytes = 8

// taker takes bytes, and turns its words by each block of them.
type taker struct {
	words
	// begun holds the bytes of a block that is not full yet: as many as taken has above whole blocks.
	begun [blockBytes]byte
	taken int64
}

// begin is a taker that has taken nothing.
func begin() *taker {
	return &taker{words: first}
}

// take takes parts, one behind the other.
func (t *taker) take(parts ...[]byte) {
	for _, b := range parts {
		for len(b) > 0 {
			b = b[t.takeSome(b):]
		}
	}
}

// takeSome takes what b has of the block that is under way, and tells how much that was.
func (t *taker) takeSome(b []byte) int {
	at := int(t.taken % blockBytes)
	many := min(blockBytes-at, len(b))
	switch {
	case many == blockBytes:
		// A block that stands whole in b is turned there: long parts need not be copied.
		t.turn(b[:many])
	case at+many == blockBytes:
		copy(t.begun[at:], b[:many])
		t.turn(t.begun[:])
	default:
		copy(t.begun[at:], b[:many])
	}
	t.taken += int64(many)
	return many
}

// takeTexts takes texts' bytes. They are not put by a maker, for here a text may be longer than code allows.
func (t *taker) takeTexts(texts ...[]byte) {
	for _, b := range texts {
		size, _ := (&code.Maker{}).Num(len(b)).Done()
		t.take(size, b)
	}
}

// end is the digest of what was taken.
func (t *taker) end() api.Sum {
	inBits := t.taken * 8
	// The byte of 128 and the noughts behind it: one byte at least, a whole block at most.
	fill := blockBytes - int((t.taken+countBytes)%blockBytes)
	tail := make([]byte, fill+countBytes)
	tail[0] = 128
	for i := range countBytes {
		tail[fill+i] = byte(inBits >> (8 * (countBytes - 1 - i)))
	}
	t.take(tail)
	return t.sum()
}
