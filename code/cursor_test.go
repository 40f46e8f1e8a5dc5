package code_test

import (
	"bytes"
	"math"
	"testing"

	"spence/api"
	"spence/code"
)

// wantFailed asks for what a cursor tells that broke with e, and goes on asking it.
func wantFailed(t *testing.T, c *code.Cursor, e api.Errno) {
	t.Helper()
	for range 2 {
		if got := c.End(); got != e {
			t.Errorf("End: %d, not %d", got, e)
		}
		if c.Left() != 0 || c.Num(api.MaxNum) != 0 || len(c.Raw(0)) != 0 || len(c.Raw(-1)) != 0 || len(c.Text(0)) != 0 {
			t.Error("a broken cursor tells something")
		}
	}
}

// P1.2: numbers, and what is none.
func TestCursorNum(t *testing.T) {
	for _, c := range []struct {
		b    []byte
		most int
		want int // -1: none
	}{
		{[]byte{0}, 0, 0},
		{[]byte{0}, -1, -1},
		{[]byte{127}, 127, 127},
		{[]byte{127}, 126, -1},
		{[]byte{172, 2}, 300, 300},
		{[]byte{172, 2}, 299, -1},
		{[]byte{172, 2}, math.MaxInt, 300},
		{[]byte{172, 2}, math.MinInt, -1},
		{[]byte{128, 128, 128, 128, 128, 32}, api.MaxNum, api.MaxNum},
		{[]byte{128, 128, 128, 128, 128, 32}, api.MaxNum - 1, -1},
		{[]byte{129, 128, 128, 128, 128, 32}, math.MaxInt, -1},
		{[]byte{128, 128, 128, 128, 128, 127}, math.MaxInt, -1},
		{[]byte{128, 128, 128, 128, 128, 128, 1}, math.MaxInt, -1},
		{[]byte{129, 128, 128, 128, 128, 128, 128, 128, 128, 128, 0}, math.MaxInt, -1},
		{[]byte{128, 0}, math.MaxInt, -1},
		{[]byte{255, 0}, math.MaxInt, -1},
		{[]byte{128, 128, 0}, math.MaxInt, -1},
		{[]byte{129, 128, 128, 128, 128, 0}, math.MaxInt, -1},
		{[]byte{128}, math.MaxInt, -1},
		{[]byte{128, 128, 128, 128, 128}, math.MaxInt, -1},
		{nil, math.MaxInt, -1},
	} {
		cursor := code.Over(c.b)
		got := cursor.Num(c.most)
		if c.want < 0 {
			if got != 0 {
				t.Errorf("%v: Num(%d): %d", c.b, c.most, got)
			}
			wantFailed(t, cursor, api.ErrShape)
			continue
		}
		if got != c.want || cursor.End() != api.OK || cursor.Left() != 0 {
			t.Errorf("%v: Num(%d): %d, End %d", c.b, c.most, got, cursor.End())
		}
	}
}

// P1.2: so many bytes, and too many, and fewer than none.
func TestCursorRaw(t *testing.T) {
	c := code.Over([]byte{1, 2, 3, 4})
	for _, want := range [][]byte{nil, {1}, nil, {2, 3}, {4}, nil} {
		if got := c.Raw(len(want)); !bytes.Equal(got, want) {
			t.Errorf("Raw(%d): %v", len(want), got)
		}
	}
	if c.End() != api.OK {
		t.Errorf("End: %d", c.End())
	}
	for _, many := range []int{-1, math.MinInt, 5, math.MaxInt} {
		c := code.Over([]byte{1, 2, 3, 4})
		if got := c.Raw(many); len(got) != 0 {
			t.Errorf("Raw(%d): %v", many, got)
		}
		wantFailed(t, c, api.ErrShape)
	}
}

// P1.2: texts, what is none, and what is longer than was asked for.
func TestCursorText(t *testing.T) {
	for _, c := range []struct {
		b    []byte
		most int
		want []byte
		err  api.Errno
	}{
		{[]byte{0}, 0, nil, api.OK},
		{[]byte{2, 'a', 'b'}, 2, []byte("ab"), api.OK},
		{[]byte{2, 'a', 'b'}, math.MaxInt, []byte("ab"), api.OK},
		{[]byte{2, 'a', 'b'}, 1, nil, api.ErrLong},
		{[]byte{2, 'a', 'b'}, 0, nil, api.ErrLong},
		{[]byte{0}, -1, nil, api.ErrLong},
		{[]byte{0}, math.MinInt, nil, api.ErrLong},
		{[]byte{2, 'a'}, 2, nil, api.ErrShape},
		{[]byte{2, 'a'}, 1, nil, api.ErrLong},
		{[]byte{2}, 1, nil, api.ErrLong},
		{[]byte{128, 128, 128, 128, 128, 32}, maxText, nil, api.ErrLong},
		{[]byte{128, 128, 128, 128, 128, 33}, maxText, nil, api.ErrShape},
		{[]byte{128, 0}, 0, nil, api.ErrShape},
		{[]byte{130}, 0, nil, api.ErrShape},
		{nil, 9, nil, api.ErrShape},
	} {
		cursor := code.Over(c.b)
		if got := cursor.Text(c.most); !bytes.Equal(got, c.want) {
			t.Errorf("%v: Text(%d): %v", c.b, c.most, got)
		}
		if c.err != api.OK {
			wantFailed(t, cursor, c.err)
		} else if cursor.End() != api.OK {
			t.Errorf("%v: Text(%d): End %d", c.b, c.most, cursor.End())
		}
	}
}

// P1.2: the longest text, and bytes that are no text, for they are too many.
func TestCursorTextLimit(t *testing.T) {
	text := bytes.Repeat([]byte{7}, maxText+1)
	b := made(t, (&code.Maker{}).Text(text[:maxText]))
	for _, most := range []int{maxText, maxText + 1, math.MaxInt} {
		c := code.Over(b)
		if got := c.Text(most); len(got) != maxText || c.End() != api.OK {
			t.Errorf("Text(%d): %d bytes, End %d", most, len(got), c.End())
		}
	}
	c := code.Over(b)
	c.Text(maxText - 1)
	wantFailed(t, c, api.ErrLong)
	b = made(t, (&code.Maker{}).Num(len(text)).Raw(text))
	for most, e := range map[int]api.Errno{maxText: api.ErrLong, maxText + 1: api.ErrShape, math.MaxInt: api.ErrShape} {
		c := code.Over(b)
		if got := c.Text(most); len(got) != 0 {
			t.Errorf("Text(%d): %d bytes", most, len(got))
		}
		wantFailed(t, c, e)
	}
}

// P1.2: how many bytes stand behind, and the error of bytes that are left, which breaks nothing.
func TestCursorLeftAndEnd(t *testing.T) {
	c := code.Over([]byte{172, 2, 1, 'a', 9})
	for _, step := range []struct {
		do   func()
		left int
		end  api.Errno
	}{
		{func() {}, 5, api.ErrShape},
		{func() { c.Num(300) }, 3, api.ErrShape},
		{func() { c.Text(1) }, 1, api.ErrShape},
		{func() { c.Raw(0) }, 1, api.ErrShape},
		{func() { c.Raw(1) }, 0, api.OK},
		{func() { c.Raw(0) }, 0, api.OK},
	} {
		step.do()
		if c.Left() != step.left || c.End() != step.end {
			t.Errorf("Left %d, End %d, not %d, %d", c.Left(), c.End(), step.left, step.end)
		}
	}
	if c := code.Over(nil); c.Left() != 0 || c.End() != api.OK {
		t.Errorf("of no bytes: Left %d, End %d", c.Left(), c.End())
	}
}

// P1.2: the first error stays, whatever is asked for behind it.
func TestCursorFirstErrorStays(t *testing.T) {
	c := code.Over([]byte{2, 'a', 'b', 128, 0})
	c.Text(1)
	c.Num(9)
	wantFailed(t, c, api.ErrLong)
	c = code.Over([]byte{128, 0, 2, 'a', 'b'})
	c.Num(9)
	c.Text(1)
	wantFailed(t, c, api.ErrShape)
}

// R3: a cursor does not keep what it is given, and what it tells is new memory.
func TestCursorKeepsNoArgument(t *testing.T) {
	b := []byte{1, 'a', 5, 6}
	c := code.Over(b)
	b[1], b[3] = 'z', 99
	text := c.Text(1)
	if string(text) != "a" {
		t.Errorf("an argument is kept: %s", text)
	}
	_ = append(text, 77)
	raw := c.Raw(1)
	_ = append(raw, 78)
	if got := c.Raw(1); raw[0] != 5 || got[0] != 6 {
		t.Errorf("what is told shares memory: %v, %v", raw, got)
	}
	if b[0] != 1 || b[1] != 'z' || b[2] != 5 || b[3] != 99 {
		t.Errorf("an argument is changed: %v", b)
	}
}

// P1.3, R5: of no cursor, and of one that Over did not tell.
func TestNoCursor(t *testing.T) {
	for i, c := range []*code.Cursor{nil, {}} {
		for range 2 {
			if c.Num(9) != 0 || len(c.Raw(0)) != 0 || len(c.Raw(-1)) != 0 || len(c.Text(9)) != 0 || c.Left() != 0 || c.End() != api.ErrNil {
				t.Errorf("no cursor (%d) tells something", i)
			}
		}
	}
}
