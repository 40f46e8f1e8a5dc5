package code

import (
	"bytes"

	"spence/api"
)

// pile is what a maker gathers.
type pile struct {
	// held begins with the pile's own bytes. Copies of a maker share it, so no byte in it is ever written a second time.
	held   *[]byte
	own    int
	broken bool
}

// gathered are the pile's own bytes.
func (p *pile) gathered() []byte {
	if p.held == nil {
		return nil
	}
	return (*p.held)[:p.own]
}

// put lays bytes behind those that were gathered.
func (p *pile) put(b ...byte) {
	if p.broken {
		return
	}
	// Where a copy of the maker has put bytes already, this one goes on in memory of its own.
	if p.held == nil || len(*p.held) != p.own {
		apart := bytes.Clone(p.gathered())
		p.held = &apart
	}
	*p.held = append(*p.held, b...)
	p.own = len(*p.held)
}

// spoil breaks the pile; what was gathered is told no more.
func (p *pile) spoil() {
	*p = pile{broken: true}
}

// number puts a number's bytes.
func (p *pile) number(n int) {
	if !isNum(n) {
		p.spoil()
		return
	}
sevens:
	for {
		low := byte(n & seven)
		n >>= 7
		switch n {
		case 0:
			p.put(low)
			break sevens
		default:
			p.put(low | more)
		}
	}
}

// text puts a text's bytes.
func (p *pile) text(b []byte) {
	if len(b) > maxText {
		p.spoil()
		return
	}
	p.number(len(b))
	p.put(b...)
}

// Maker gathers bytes. One that is just there has none.
type Maker struct{ pile }

// Num puts numbers; one that is none breaks the maker.
func (m *Maker) Num(numbers ...int) *Maker {
	if m == nil {
		return nil
	}
	for _, n := range numbers {
		m.number(n)
	}
	return m
}

// Raw puts bytes as they are.
func (m *Maker) Raw(b []byte) *Maker {
	if m == nil {
		return nil
	}
	m.put(b...)
	return m
}

// Text puts texts; one that is too long breaks the maker.
func (m *Maker) Text(texts ...[]byte) *Maker {
	if m == nil {
		return nil
	}
	for _, t := range texts {
		m.text(t)
	}
	return m
}

// Done is what was put; ErrArg of a maker that broke.
func (m *Maker) Done() ([]byte, api.Errno) {
	switch {
	case m == nil:
		return nil, api.ErrNil
	case m.broken:
		return nil, api.ErrArg
	}
	return bytes.Clone(m.gathered()), api.OK
}
