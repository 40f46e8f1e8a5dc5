package dev

import (
	"iter"

	"spence/api"
)

const (
	// keepBits is how many bits tell which pending writes are kept.
	keepBits = 62
	// allBits has every bit set.
	allBits = -1
)

// sector is the bytes of a sector.
type sector [api.Sector]byte

// write is a sector's number, and the bytes that it is to have.
type write struct {
	at int
	to sector
}

// counts says how many deeds were done, and how many may still be.
type counts struct {
	deeds int
	// fuse is which deed from now on is not done; 0 where there is no fuse.
	fuse int
	down bool
}

// light lays a fuse of n, or none.
func (c *counts) light(n int) {
	c.fuse = max(n, 0)
}

// fall takes down what is counted.
func (c *counts) fall() {
	c.down = true
}

// rise takes it up again, without a fuse.
func (c *counts) rise() {
	c.down = false
	c.fuse = 0
}

// deed counts a deed, and says whether it is to be done: it is not where the fuse ends.
func (c *counts) deed() bool {
	switch c.fuse {
	case 0:
	case 1:
		c.fall()
		return false
	default:
		c.fuse--
	}
	c.deeds++
	return true
}

// pending is the writes that are not kept yet, behind the counts of deeds.
type pending struct {
	counts
	writes []write
}

// add puts a write behind the others.
func (p *pending) add(at int, b []byte) {
	w := write{at: at}
	copy(w.to[:], b)
	p.writes = append(p.writes, w)
}

// latest goes through the writes, the last one first.
func (p *pending) latest() iter.Seq2[int, sector] {
	return func(yield func(int, sector) bool) {
		for i := len(p.writes) - 1; i >= 0; i-- {
			if !yield(p.writes[i].at, p.writes[i].to) {
				return
			}
		}
	}
}

// chosen goes through the writes whose bits are set, in order.
func (p *pending) chosen(bits int) iter.Seq2[int, sector] {
	return func(yield func(int, sector) bool) {
		for i, w := range p.writes {
			if bits>>(i%keepBits)&1 == 1 && !yield(w.at, w.to) {
				return
			}
		}
	}
}
