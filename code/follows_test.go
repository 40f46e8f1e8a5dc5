package code_test

import (
	"bytes"
	"testing"

	"spence/api"
	"spence/code"
)

// edges are numbers on both sides of those at which a number needs a byte more.
func edges() []int {
	l := []int{0, 1, 2, 300, api.MaxNum - 1, api.MaxNum}
	for bits := 7; bits < 40; bits += 7 {
		l = append(l, 1<<bits-1, 1<<bits, 1<<bits+1)
	}
	return l
}

// P1.4: what is made is got, in its order.
func TestMadeIsGot(t *testing.T) {
	m := &code.Maker{}
	for _, n := range edges() {
		text := bytes.Repeat([]byte{byte(n)}, n%1000)
		m.Num(n).Text(text).Raw(text).Num(n, 0)
	}
	c := code.Over(made(t, m))
	for _, n := range edges() {
		text := bytes.Repeat([]byte{byte(n)}, n%1000)
		if got := c.Num(n); got != n {
			t.Errorf("number %d: %d", n, got)
		}
		if got := c.Text(len(text)); !bytes.Equal(got, text) {
			t.Errorf("text of %d: %v", n, got)
		}
		if got := c.Raw(len(text)); !bytes.Equal(got, text) {
			t.Errorf("raw bytes of %d: %v", n, got)
		}
		if again, nought := c.Num(api.MaxNum), c.Num(0); again != n || nought != 0 {
			t.Errorf("numbers of %d: %d, %d", n, again, nought)
		}
	}
	if c.Left() != 0 || c.End() != api.OK {
		t.Errorf("Left %d, End %d", c.Left(), c.End())
	}
}

// rows gives f each row of at most many of these bytes.
func rows(of []byte, many int, f func(b []byte)) {
	var longer func(b []byte)
	longer = func(b []byte) {
		f(b)
		if len(b) == many {
			return
		}
		for _, x := range of {
			longer(append(bytes.Clone(b), x))
		}
	}
	longer(nil)
}

// P1.4: a number's bytes that are got to their end are those that are made of it.
func TestGotNumberIsMade(t *testing.T) {
	rows([]byte{0, 1, 31, 32, 33, 127, 128, 129, 255}, 6, func(b []byte) {
		c := code.Over(b)
		n := c.Num(api.MaxNum)
		if c.End() != api.OK {
			return
		}
		if again := made(t, (&code.Maker{}).Num(n)); !bytes.Equal(again, b) {
			t.Errorf("%v: got %d, of which %v is made", b, n, again)
		}
	})
}

// P1.4: bytes that are got to their end by a row of calls are those that the same row makes.
func TestGotRowIsMade(t *testing.T) {
	got := 0
	rows([]byte{0, 1, 2, 127, 128, 129}, 6, func(b []byte) {
		c := code.Over(b)
		n, text, raw, last := c.Num(api.MaxNum), c.Text(maxText), c.Raw(1), c.Text(maxText)
		if c.End() != api.OK {
			return
		}
		got++
		if again := made(t, (&code.Maker{}).Num(n).Text(text).Raw(raw).Text(last)); !bytes.Equal(again, b) {
			t.Errorf("%v: %v is made", b, again)
		}
	})
	if got == 0 {
		t.Error("no row was got to its end")
	}
}

// P1.4: fewer bytes only of a smaller number.
func TestFewerBytesOfSmallerNumbers(t *testing.T) {
	size := func(n int) int { return len(made(t, (&code.Maker{}).Num(n))) }
	for _, a := range edges() {
		for _, b := range edges() {
			if size(a) < size(b) && a >= b {
				t.Errorf("%d has %d bytes, %d has %d", a, size(a), b, size(b))
			}
		}
		if s := size(a); s < 1 || s > 6 {
			t.Errorf("%d has %d bytes", a, s)
		}
	}
}
