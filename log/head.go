package log

import (
	"bytes"

	"spence/api"
	"spence/code"
)

// head says what counts.
type head struct {
	// area is which one counts.
	area int
	// inArea and inLog are how many bytes of them count.
	inArea, inLog int
	round         int
}

// padded is numbers' bytes, with noughts behind them, up to a sector.
func padded(numbers ...int) []byte {
	s := make([]byte, api.Sector)
	b, _ := (&code.Maker{}).Num(numbers...).Done()
	copy(s, b)
	return s
}

// bytes are the head's.
func (h head) bytes() []byte {
	return padded(h.area, h.inArea, h.inLog, h.round)
}

// headOf is the head that a sector has, if it has one.
func headOf(sector []byte) (head, bool) {
	c := code.Over(sector)
	h := head{}
	h.area = c.Num(1)
	h.inArea = c.Num(api.MaxNum)
	h.inLog = c.Num(api.MaxNum)
	h.round = c.Num(api.MaxNum)
	// What is got by a broken cursor is of round 0; the bytes tell whether there are noughts behind the numbers.
	if h.round < 1 || !bytes.Equal(h.bytes(), sector) {
		return head{}, false
	}
	return h, true
}

// within says whether what counts is within the regions.
func (h head) within(s api.Shape) bool {
	return h.inArea <= s.Area*api.Sector && h.room(s) >= 0
}

// room is how many bytes of the log's sectors do not count.
func (h head) room(s api.Shape) int {
	return s.Log*api.Sector - h.inLog
}

// last says whether there is no round behind this one.
func (h head) last() bool {
	return h.round >= api.MaxNum
}

// appended is the head that counts so many bytes more of the log.
func (h head) appended(many int) head {
	return head{area: h.area, inArea: h.inArea, inLog: h.inLog + many, round: h.round + 1}
}

// switched is the head that counts so many bytes of the other area, and none of the log.
func (h head) switched(many int) head {
	return head{area: 1 - h.area, inArea: many, round: h.round + 1}
}
