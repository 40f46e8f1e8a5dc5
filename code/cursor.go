package code

import (
	"bytes"

	"spence/api"
)

// Cursor goes through bytes. Only one that Over told is a cursor.
type Cursor struct {
	left []byte
	err  api.Errno
	made bool
}

// Over is a cursor over bytes.
func Over(b []byte) *Cursor {
	return &Cursor{left: bytes.Clone(b), made: true}
}

// isCursor says whether Over told c.
func (c *Cursor) isCursor() bool {
	return c != nil && c.made
}

// whole says whether c is a cursor that nothing broke.
func (c *Cursor) whole() bool {
	return c.isCursor() && c.err == api.OK
}

// fail breaks a whole cursor.
func (c *Cursor) fail(e api.Errno) {
	c.err = e
	c.left = nil
}

// Num gets a number that is at most most.
func (c *Cursor) Num(most int) int {
	if !c.whole() {
		return 0
	}
	n, size := numAt(c.left)
	if size == 0 || n > most {
		c.fail(api.ErrShape)
		return 0
	}
	c.left = c.left[size:]
	return n
}

// Raw gets so many bytes.
func (c *Cursor) Raw(many int) []byte {
	if !c.whole() {
		return nil
	}
	if many < 0 || many > len(c.left) {
		c.fail(api.ErrShape)
		return nil
	}
	b := bytes.Clone(c.left[:many])
	c.left = c.left[many:]
	return b
}

// Text gets a text of at most most bytes.
func (c *Cursor) Text(most int) []byte {
	n := c.Num(api.MaxNum)
	switch {
	case !c.whole():
		return nil
	case n > most:
		// What was asked for is held against the length alone: the bytes need not be there.
		c.fail(api.ErrLong)
		return nil
	case n > maxText:
		c.fail(api.ErrShape)
		return nil
	}
	return c.Raw(n)
}

// Left is how many bytes stand behind; none of a cursor that broke.
func (c *Cursor) Left() int {
	if !c.whole() {
		return 0
	}
	return len(c.left)
}

// End is the error that broke the cursor; ErrShape, if bytes are left.
func (c *Cursor) End() api.Errno {
	switch {
	case !c.isCursor():
		return api.ErrNil
	case c.err == api.OK && len(c.left) > 0:
		return api.ErrShape
	}
	return c.err
}
