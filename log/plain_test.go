package log_test

import (
	"bytes"
	"testing"

	"spence/api"
	"spence/code"
	"spence/dev"
	"spence/log"
)

// plain is a device's bytes and its journal's head, after the chapter's words, one by one.
type plain struct {
	s                        api.Shape
	all                      []byte
	area, inArea, log, round int
}

// number is a number's bytes, below 2^21.
func number(n int) []byte {
	switch {
	case n < 1<<7:
		return []byte{byte(n)}
	case n < 1<<14:
		return []byte{byte(n&127 | 128), byte(n >> 7)}
	}
	return []byte{byte(n&127 | 128), byte(n>>7&127 | 128), byte(n >> 14)}
}

// record is a record's text.
func record(b []byte) []byte {
	return append(number(len(b)), b...)
}

// headBytes are those of a sector that says these numbers.
func headBytes(t *testing.T, numbers ...int) []byte {
	t.Helper()
	b, e := (&code.Maker{}).Num(numbers...).Done()
	want(t, "a head's numbers", e, api.OK)
	return append(b, make([]byte, api.Sector-len(b))...)
}

// newPlain is what a device of these bytes is behind a Format.
func newPlain(t *testing.T, s api.Shape, all []byte) *plain {
	t.Helper()
	p := &plain{s: s, all: bytes.Clone(all), round: 1}
	p.tell(t)
	return p
}

// tell puts the head's bytes.
func (p *plain) tell(t *testing.T) {
	t.Helper()
	copy(p.all, headBytes(t, p.area, p.inArea, p.log, p.round))
}

// areaBegin is the first byte of an area.
func (p *plain) areaBegin(area int) int {
	return 64 * (1 + p.s.Log + area*p.s.Area)
}

// room is how many bytes of the log do not count.
func (p *plain) room() int {
	return 64*p.s.Log - p.log
}

// areaBytes are those that count.
func (p *plain) areaBytes() []byte {
	return p.all[p.areaBegin(p.area):][:p.inArea]
}

// records are those of the log.
func (p *plain) records() [][]byte {
	var l [][]byte
	for b := p.all[64:][:p.log]; len(b) > 0; {
		n, size := 0, 0
		for more := true; more; size++ {
			n += int(b[size]%128) << (7 * size)
			more = b[size] >= 128
		}
		l = append(l, b[size:][:n])
		b = b[size+n:]
	}
	return l
}

// append does what an Append does, and says what it tells.
func (p *plain) append(t *testing.T, b []byte) api.Errno {
	t.Helper()
	text := record(b)
	if len(text) > p.room() {
		return api.ErrLong
	}
	copy(p.all[64+p.log:], text)
	p.log += len(text)
	p.round++
	p.tell(t)
	return api.OK
}

// turn does what a Switch does, and says what it tells.
func (p *plain) turn(t *testing.T, b []byte) api.Errno {
	t.Helper()
	if len(b) > 64*p.s.Area {
		return api.ErrLong
	}
	p.area = 1 - p.area
	copy(p.all[p.areaBegin(p.area):], b)
	p.inArea, p.log = len(b), 0
	p.round++
	p.tell(t)
	return api.OK
}

// clone is p once more.
func (p *plain) clone() *plain {
	q := *p
	q.all = bytes.Clone(p.all)
	return &q
}

// alike says whether j tells what p says.
func (p *plain) alike(j *log.Journal) bool {
	area, ea := j.Area()
	l, el := j.Records()
	return ea == api.OK && el == api.OK && bytes.Equal(area, p.areaBytes()) && sameLists(l, p.records()) && j.Room() == p.room() && j.Round() == p.round
}

// wantAlike asks that j tells what p says, and so a journal that is opened again, and that d has kept all of it.
func (p *plain) wantAlike(t *testing.T, d *dev.Device, j *log.Journal) {
	t.Helper()
	if !p.alike(j) {
		t.Errorf("it tells otherwise than what was done: %s", told(j))
	}
	if again := open(t, d, p.s); !p.alike(again) {
		t.Errorf("opened again it tells otherwise than what was done: %s", told(again))
	}
	if !bytes.Equal(d.Kept(), p.all) || d.Stat().Pending != 0 {
		t.Error("other bytes are kept, or some are pending")
	}
}
