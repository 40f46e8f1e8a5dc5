package code_test

import (
	"bytes"
	"math"
	"testing"

	"spence/api"
	"spence/code"
)

const maxText = 1 << 20

// made is what a maker tells that must not be broken.
func made(t *testing.T, m *code.Maker) []byte {
	t.Helper()
	b, e := m.Done()
	if e != api.OK {
		t.Fatalf("Done: error %d", e)
	}
	return b
}

// wantBroken asks for what a broken maker tells.
func wantBroken(t *testing.T, m *code.Maker) {
	t.Helper()
	if b, e := m.Done(); e != api.ErrArg || len(b) != 0 {
		t.Errorf("Done of a broken maker: %v, %d", b, e)
	}
}

// P1.1: the bytes of numbers.
func TestMakerNum(t *testing.T) {
	for _, c := range []struct {
		numbers []int
		want    []byte
	}{
		{nil, nil},
		{[]int{0}, []byte{0}},
		{[]int{1}, []byte{1}},
		{[]int{127}, []byte{127}},
		{[]int{128}, []byte{128, 1}},
		{[]int{129}, []byte{129, 1}},
		{[]int{300}, []byte{172, 2}},
		{[]int{1<<14 - 1}, []byte{255, 127}},
		{[]int{1 << 14}, []byte{128, 128, 1}},
		{[]int{1<<21 - 1}, []byte{255, 255, 127}},
		{[]int{1 << 21}, []byte{128, 128, 128, 1}},
		{[]int{1 << 28}, []byte{128, 128, 128, 128, 1}},
		{[]int{1 << 35}, []byte{128, 128, 128, 128, 128, 1}},
		{[]int{api.MaxNum - 1}, []byte{255, 255, 255, 255, 255, 31}},
		{[]int{api.MaxNum}, []byte{128, 128, 128, 128, 128, 32}},
		{[]int{2, 300, 0, 1}, []byte{2, 172, 2, 0, 1}},
	} {
		m := &code.Maker{}
		if got := made(t, m.Num(c.numbers...)); !bytes.Equal(got, c.want) {
			t.Errorf("Num(%v): %v, not %v", c.numbers, got, c.want)
		}
	}
}

// P1.1: the bytes of texts, and bytes as they are.
func TestMakerTextAndRaw(t *testing.T) {
	long := bytes.Repeat([]byte{'x'}, 128)
	for _, c := range []struct {
		make func(m *code.Maker)
		want []byte
	}{
		{func(m *code.Maker) {}, nil},
		{func(m *code.Maker) { m.Text() }, nil},
		{func(m *code.Maker) { m.Text(nil) }, []byte{0}},
		{func(m *code.Maker) { m.Text([]byte("ab")) }, []byte{2, 'a', 'b'}},
		{func(m *code.Maker) { m.Text([]byte("a"), []byte{}, []byte("bc")) }, []byte{1, 'a', 0, 2, 'b', 'c'}},
		{func(m *code.Maker) { m.Text(long) }, append([]byte{128, 1}, long...)},
		{func(m *code.Maker) { m.Raw(nil) }, nil},
		{func(m *code.Maker) { m.Raw([]byte{255, 0}) }, []byte{255, 0}},
		{func(m *code.Maker) { m.Num(7).Raw([]byte{8}).Text([]byte{9}).Num(6, 5) }, []byte{7, 8, 1, 9, 6, 5}},
	} {
		m := &code.Maker{}
		c.make(m)
		if got := made(t, m); !bytes.Equal(got, c.want) {
			t.Errorf("%v, not %v", got, c.want)
		}
	}
}

// P1.1: each call answers the maker itself, a broken one too.
func TestMakerAnswersItself(t *testing.T) {
	m := &code.Maker{}
	for range 2 {
		if m.Num() != m || m.Num(1) != m || m.Raw(nil) != m || m.Text(nil) != m || m.Num(-1) != m {
			t.Error("another maker is answered")
		}
	}
}

// P1.1: what is no number breaks a maker, and nothing mends it.
func TestMakerBrokenByNumber(t *testing.T) {
	for _, n := range []int{-1, api.MaxNum + 1, math.MaxInt, math.MinInt} {
		m := &code.Maker{}
		m.Num(1).Num(2, n, 3).Num(4).Raw([]byte{5}).Text([]byte{6})
		wantBroken(t, m)
		wantBroken(t, m)
	}
}

// P1.1: the longest text, and one that is too long.
func TestMakerTextLimit(t *testing.T) {
	b := make([]byte, maxText+1)
	m := &code.Maker{}
	if got := made(t, m.Text(b[:maxText])); len(got) != maxText+3 || !bytes.Equal(got[:3], []byte{128, 128, 64}) {
		t.Errorf("the longest text has %d bytes", len(got))
	}
	wantBroken(t, m.Text(b).Text(nil))
	m = &code.Maker{}
	wantBroken(t, m.Text(nil, b, nil))
	m = &code.Maker{}
	if got := made(t, m.Raw(b).Raw(b)); len(got) != 2*len(b) {
		t.Errorf("raw bytes have no limit, but %d were put", len(got))
	}
}

// P1.1: a maker stays as it is when it tells; R3: what it tells is new memory.
func TestMakerDoneStays(t *testing.T) {
	m := (&code.Maker{}).Num(1, 2, 3)
	first := made(t, m)
	first[0] = 99
	_ = append(first[:1], 98, 97, 96, 95)
	second := made(t, m)
	if !bytes.Equal(second, []byte{1, 2, 3}) {
		t.Errorf("told again: %v", second)
	}
	m.Num(4)
	if got := made(t, m); !bytes.Equal(got, []byte{1, 2, 3, 4}) || !bytes.Equal(second, []byte{1, 2, 3}) {
		t.Errorf("told after more: %v, the one before: %v", got, second)
	}
}

// R3: a maker neither keeps nor changes what it is given.
func TestMakerKeepsNoArgument(t *testing.T) {
	raw, text, numbers := []byte{1, 2}, []byte{3, 4}, []int{300, 5}
	m := (&code.Maker{}).Raw(raw).Text(text).Num(numbers...)
	if raw[0] != 1 || raw[1] != 2 || text[0] != 3 || text[1] != 4 || numbers[0] != 300 || numbers[1] != 5 {
		t.Error("an argument is changed")
	}
	raw[0], text[0], numbers[1] = 9, 9, 9
	if got := made(t, m); !bytes.Equal(got, []byte{1, 2, 2, 3, 4, 172, 2, 5}) {
		t.Errorf("an argument is kept: %v", got)
	}
}

// R4: makers that were copied don't write into one another's bytes, whatever room there was.
func TestMakerCopied(t *testing.T) {
	for many := range 40 {
		m := code.Maker{}
		m.Raw(make([]byte, many))
		other := m
		m.Num(1, 2)
		third := m
		other.Num(3)
		m.Num(4)
		third.Num(5).Num(6)
		back := third
		third = other
		third.Num(7)
		for i, c := range []struct {
			m    *code.Maker
			want []byte
		}{{&m, []byte{1, 2, 4}}, {&other, []byte{3}}, {&back, []byte{1, 2, 5, 6}}, {&third, []byte{3, 7}}} {
			if got := made(t, c.m); !bytes.Equal(got[many:], c.want) {
				t.Errorf("behind %d bytes, maker %d: %v, not %v", many, i, got[many:], c.want)
			}
		}
	}
}

// P1.3: of no maker.
func TestNoMaker(t *testing.T) {
	var m *code.Maker
	if m.Num(1) != nil || m.Num() != nil || m.Raw([]byte{1}) != nil || m.Text([]byte{1}) != nil || m.Num(-1) != nil {
		t.Error("a maker is answered where there is none")
	}
	if b, e := m.Done(); e != api.ErrNil || len(b) != 0 {
		t.Errorf("Done of no maker: %v, %d", b, e)
	}
}
