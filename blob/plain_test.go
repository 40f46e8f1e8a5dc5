package blob_test

import (
	"bytes"
	"slices"
	"testing"

	"spence/api"
	"spence/dev"
	"spence/log"
)

// small is a shape of some sectors of data.
var small = api.Shape{Log: 2, Area: 1, Data: 12}

// want asks that a call told this error.
func want(t *testing.T, what string, got, e api.Errno) {
	t.Helper()
	if got != e {
		t.Errorf("%s: %d, not %d", what, got, e)
	}
}

// runs are those of pairs, At and Many.
func runs(pairs ...int) []api.Run {
	var l []api.Run
	for i := 0; i < len(pairs); i += 2 {
		l = append(l, api.Run{At: pairs[i], Many: pairs[i+1]})
	}
	return l
}

// filled is so many bytes, none of them nought, and no two of other seeds alike.
func filled(seed, many int) []byte {
	b := make([]byte, many)
	for i := range b {
		b[i] = byte(1 + (seed*31+i*7+i/255)%255)
	}
	return b
}

// device is a device of so many sectors, with no byte of nought, and nothing pending.
func device(t *testing.T, sectors int) *dev.Device {
	t.Helper()
	d, e := dev.New(sectors)
	if d == nil || e != api.OK {
		t.Fatalf("New(%d): %d", sectors, e)
	}
	for at := range sectors {
		want(t, "Write", d.Write(at, filled(at, 64)), api.OK)
	}
	want(t, "Flush", d.Flush(), api.OK)
	return d
}

// shaped is a device just as large as a shape.
func shaped(t *testing.T, s api.Shape) *dev.Device {
	t.Helper()
	return device(t, log.Sectors(s))
}

// wantSame asks that a device is as it was ahead of what now refuses.
func wantSame(t *testing.T, what string, d *dev.Device, stat dev.Stat, kept []byte) {
	t.Helper()
	if d.Stat() != stat || !bytes.Equal(d.Kept(), kept) {
		t.Errorf("%s: something is done beside an error", what)
	}
}

// plainNeed is how many sectors bytes fill, the last one perhaps in part.
func plainNeed(many int) int {
	n := 0
	for ; many > 0; many -= 64 {
		n++
	}
	return n
}

// plainHeld says of each sector of data whether it is held, if the runs are right, and apart.
func plainHeld(data int, l []api.Run) ([]bool, bool) {
	held := make([]bool, data)
	for _, r := range l {
		if r.At < 0 || r.Many < 1 {
			return nil, false
		}
		for i := range r.Many {
			if r.At >= data || i >= data-r.At || held[r.At+i] {
				return nil, false
			}
			held[r.At+i] = true
		}
	}
	return held, true
}

// plainFind is what Find tells, after the chapter's words.
func plainFind(data, many int, l []api.Run) ([]api.Run, api.Errno) {
	held, ok := plainHeld(data, l)
	if !ok || many < 0 {
		return nil, api.ErrArg
	}
	var free []int
	for at, is := range held {
		if !is {
			free = append(free, at)
		}
	}
	if len(free) < many {
		return nil, api.ErrFull
	}
	var found []api.Run
	for i := 0; i < many; {
		k := i + 1
		for k < many && free[k] == free[i]+k-i {
			k++
		}
		found = append(found, api.Run{At: free[i], Many: k - i})
		i = k
	}
	return found, api.OK
}

// places are the sectors of the device in which runs' sectors lie, in the order in which the runs stand.
func places(s api.Shape, l []api.Run) []int {
	var at []int
	for _, r := range l {
		for i := range r.Many {
			at = append(at, 1+s.Log+2*s.Area+r.At+i)
		}
	}
	return at
}

// plainWrite puts bytes to runs' sectors of all of a device's bytes, noughts behind them.
func plainWrite(all []byte, s api.Shape, b []byte, l []api.Run) {
	for i, at := range places(s, l) {
		sector := all[64*at:][:64]
		clear(sector)
		copy(sector, b[64*i:])
	}
}

// plainRead is so many bytes of runs' sectors of all of a device's bytes.
func plainRead(all []byte, s api.Shape, many int, l []api.Run) []byte {
	var b []byte
	for _, at := range places(s, l) {
		b = append(b, all[64*at:][:64]...)
	}
	return b[:many]
}

// sameRuns says whether lists have the same runs; one without elements and nil are one.
func sameRuns(a, b []api.Run) bool {
	return slices.Equal(a, b)
}
