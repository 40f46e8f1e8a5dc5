package log_test

import (
	"math"
	"testing"

	"spence/api"
	"spence/log"
)

// rightShapes are shapes at the edges of what is right, with their sectors and the first ones of their data.
var rightShapes = []struct {
	s              api.Shape
	sectors, first int
}{
	{api.Shape{Log: 1, Area: 1, Data: 1}, 5, 4},
	{api.Shape{Log: 2, Area: 3, Data: 5}, 14, 9},
	{api.Shape{Log: 8188, Area: 1, Data: 1}, 8192, 8191},
	{api.Shape{Log: 1, Area: 4094, Data: 1}, 8191, 8190},
	{api.Shape{Log: 2, Area: 4094, Data: 1}, 8192, 8191},
	{api.Shape{Log: 1, Area: 4094, Data: 2}, 8192, 8190},
	{api.Shape{Log: 1, Area: 1, Data: 8188}, 8192, 4},
	{api.Shape{Log: 2000, Area: 2000, Data: 2191}, 8192, 6001},
}

// wrongShapes are not right.
func wrongShapes() []api.Shape {
	l := []api.Shape{
		{},
		{Log: 8189, Area: 1, Data: 1},
		{Log: 1, Area: 4095, Data: 1},
		{Log: 2, Area: 4094, Data: 2},
		{Log: 1, Area: 1, Data: 8189},
		{Log: 2000, Area: 2000, Data: 2192},
		{Log: 8192, Area: 8192, Data: 8192},
		{Log: math.MaxInt, Area: math.MaxInt, Data: math.MaxInt},
		{Log: math.MinInt, Area: math.MinInt, Data: math.MinInt},
		// Sums of these turn round to what would be few sectors.
		{Log: math.MaxInt, Area: math.MaxInt, Data: 9},
		{Log: 1, Area: 1 << 62, Data: 1},
		{Log: 1, Area: math.MinInt, Data: 1},
		{Log: math.MaxInt, Area: 1, Data: math.MaxInt},
	}
	for _, n := range []int{0, -1, 8192, 8193, -8192, math.MinInt, math.MaxInt} {
		l = append(l, api.Shape{Log: n, Area: 9, Data: 9}, api.Shape{Log: 9, Area: n, Data: 9}, api.Shape{Log: 9, Area: 9, Data: n})
	}
	return l
}

// P5.1: what is right, how many sectors it has, and the first one of its data.
func TestRightShapes(t *testing.T) {
	for _, c := range rightShapes {
		if !log.Right(c.s) || log.Sectors(c.s) != c.sectors || log.First(c.s) != c.first {
			t.Errorf("%+v: %v, %d, %d", c.s, log.Right(c.s), log.Sectors(c.s), log.First(c.s))
		}
	}
}

// P5.1: what is not right has no sectors.
func TestWrongShapes(t *testing.T) {
	for _, s := range wrongShapes() {
		if log.Right(s) || log.Sectors(s) != 0 || log.First(s) != 0 {
			t.Errorf("%+v: %v, %d, %d", s, log.Right(s), log.Sectors(s), log.First(s))
		}
	}
}

// P5.1: among all small shapes, and all near the limit, those are right whose sectors are there.
func TestShapesByCount(t *testing.T) {
	near := []int{-1, 0, 1, 2, 3, 4093, 4094, 4095, 8186, 8187, 8188, 8189, 8192}
	for _, a := range near {
		for _, b := range near {
			for _, c := range near {
				s := api.Shape{Log: a, Area: b, Data: c}
				sectors, first := 1+a+b+b+c, 1+a+b+b
				if a < 1 || b < 1 || c < 1 || sectors > 8192 {
					sectors, first = 0, 0
				}
				if log.Right(s) != (sectors > 0) || log.Sectors(s) != sectors || log.First(s) != first {
					t.Errorf("%+v: %v, %d, %d", s, log.Right(s), log.Sectors(s), log.First(s))
				}
			}
		}
	}
}
