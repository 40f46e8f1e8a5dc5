package blob_test

import (
	"bytes"
	"math"
	"slices"
	"testing"

	"spence/api"
	"spence/blob"
	"spence/dev"
	"spence/log"
)

// rightWrites are bytes' lengths, and runs that have just the sectors that they need.
var rightWrites = []struct {
	many int
	l    []api.Run
}{
	{0, nil},
	{1, runs(0, 1)},
	{1, runs(11, 1)},
	{63, runs(5, 1)},
	{64, runs(5, 1)},
	{65, runs(5, 2)},
	{65, runs(5, 1, 9, 1)},
	{128, runs(9, 1, 5, 1)},
	{129, runs(9, 2, 5, 1)},
	{200, runs(5, 1, 4, 1, 3, 1, 2, 1)},
	{256, runs(8, 1, 9, 1, 6, 1, 7, 1)},
	{300, runs(10, 2, 0, 2, 5, 1)},
	{64*12 - 1, runs(0, 12)},
	{64 * 12, runs(0, 12)},
	{64*12 - 63, runs(6, 6, 0, 6)},
	{64*12 - 5, runs(11, 1, 10, 1, 9, 1, 8, 1, 7, 1, 6, 1, 5, 1, 4, 1, 3, 1, 2, 1, 1, 1, 0, 1)},
}

// wantRead asks that these bytes are read of runs.
func wantRead(t *testing.T, d *dev.Device, s api.Shape, b []byte, l []api.Run) {
	t.Helper()
	got, e := blob.Read(d, s, len(b), l...)
	if !bytes.Equal(got, b) || e != api.OK {
		t.Errorf("Read of %d bytes, %v: %v, %d", len(b), l, got, e)
	}
}

// P7.3: bytes come to lie run by run, noughts behind them, and are kept; all else stays; they are read again.
func TestWrite(t *testing.T) {
	for i, c := range rightWrites {
		d := shaped(t, small)
		all := d.Kept()
		b := filled(1000+i, c.many)
		plainWrite(all, small, b, c.l)
		stat := d.Stat()
		want(t, "Write", blob.Write(d, small, b, c.l...), api.OK)
		if !bytes.Equal(d.Kept(), all) {
			t.Errorf("%d bytes, %v: others are kept", c.many, c.l)
		}
		if now := d.Stat(); now.Pending != 0 || now.Deeds != stat.Deeds+plainNeed(c.many)+1 {
			t.Errorf("%d bytes, %v: %+v, then %+v", c.many, c.l, stat, now)
		}
		stat = d.Stat()
		wantRead(t, d, small, b, c.l)
		wantSame(t, "Read", d, stat, all)
	}
}

// P7.3: bytes that are nought, too, are written and read.
func TestWriteNoughts(t *testing.T) {
	d := shaped(t, small)
	for _, many := range []int{1, 64, 70, 130} {
		l := runs(9, 1, 3, 2)
		if many < 128 {
			l = runs(3, plainNeed(many))
		}
		want(t, "Write", blob.Write(d, small, make([]byte, many), l...), api.OK)
		wantRead(t, d, small, make([]byte, many), l)
	}
}

// P7.3: the sectors are written one by one, in the order of the runs, and then flushed: the device tells it by what was pending when it crashed.
func TestWriteOrder(t *testing.T) {
	l := runs(7, 2, 1, 1, 5, 1)
	b := filled(99, 200)
	at := places(small, l)
	for n := 1; n <= 6; n++ {
		for keep := range 16 {
			d := shaped(t, small)
			all := d.Kept()
			d.Fuse(n)
			e := blob.Write(d, small, b, l...)
			if n == 6 {
				want(t, "Write", e, api.OK)
				continue
			}
			want(t, "Write", e, api.ErrDown)
			if got := d.Stat().Pending; got != n-1 {
				t.Errorf("fuse %d: %d pending", n, got)
			}
			d.Wake(keep)
			for i := range n - 1 {
				if keep>>i&1 == 1 {
					sector := all[64*at[i]:][:64]
					clear(sector)
					copy(sector, b[64*i:])
				}
			}
			if !bytes.Equal(d.Kept(), all) {
				t.Errorf("fuse %d, keep %d: other sectors are kept", n, keep)
			}
		}
	}
}

// P7.3: of no bytes nothing is written, but what was pending is kept; a device that is down tells so.
func TestWriteNothing(t *testing.T) {
	d := shaped(t, small)
	all := d.Kept()
	want(t, "dev's Write", d.Write(2, []byte{1, 2}), api.OK)
	deeds := d.Stat().Deeds
	want(t, "Write", blob.Write(d, small, nil), api.OK)
	copy(all[128:], append([]byte{1, 2}, make([]byte, 62)...))
	if !bytes.Equal(d.Kept(), all) || d.Stat().Pending != 0 || d.Stat().Deeds != deeds+1 {
		t.Errorf("%+v", d.Stat())
	}
	want(t, "Write of an empty list", blob.Write(d, small, []byte{}, []api.Run{}...), api.OK)
	d.Fuse(1)
	want(t, "Write at a fuse", blob.Write(d, small, nil), api.ErrDown)
	want(t, "Write", blob.Write(d, small, nil), api.ErrDown)
}

// P7.3: what is seen is read, pending or kept; only as many bytes as are asked for.
func TestRead(t *testing.T) {
	d := shaped(t, small)
	for at := range 12 {
		if at%3 > 0 {
			want(t, "dev's Write", d.Write(5+at, filled(500+at, 64)), api.OK)
		}
	}
	var all []byte
	for at := range log.Sectors(small) {
		b, _ := d.Read(at)
		all = append(all, b...)
	}
	stat, kept := d.Stat(), d.Kept()
	for _, c := range rightWrites {
		wantRead(t, d, small, plainRead(all, small, c.many, c.l), c.l)
	}
	for many := range 12*64 + 1 {
		if n := plainNeed(many); n > 0 {
			wantRead(t, d, small, plainRead(all, small, many, runs(0, n)), runs(0, n))
		}
	}
	wantSame(t, "Read", d, stat, kept)
}

// P7.3: bits that are turned are read as they are.
func TestReadSpoilt(t *testing.T) {
	d := shaped(t, small)
	b := filled(7, 100)
	want(t, "Write", blob.Write(d, small, b, runs(3, 1, 1, 1)...), api.OK)
	want(t, "Spoil", d.Spoil(5+3, 9), api.OK)
	want(t, "Spoil", d.Spoil(5+1, 511), api.OK)
	b[1] ^= 2
	wantRead(t, d, small, b, runs(3, 1, 1, 1))
}

// P7.3: the data of all shapes lie behind the areas; a device may have more sectors than the shape.
func TestWriteShapes(t *testing.T) {
	for _, s := range []api.Shape{
		{Log: 1, Area: 1, Data: 1},
		{Log: 1, Area: 3, Data: 4},
		{Log: 4, Area: 1, Data: 4},
		{Log: 20, Area: 30, Data: 40},
		{Log: 100, Area: 4000, Data: 91},
		{Log: 8188, Area: 1, Data: 1},
	} {
		for _, more := range []int{0, 1, 9} {
			if log.Sectors(s)+more > api.MaxSectors {
				continue
			}
			d := device(t, log.Sectors(s)+more)
			all := d.Kept()
			for _, l := range [][]api.Run{runs(0, 1), runs(s.Data-1, 1), runs(0, s.Data)} {
				b := filled(s.Log+more, 64*l[0].Many-10)
				plainWrite(all, s, b, l)
				want(t, "Write", blob.Write(d, s, b, l...), api.OK)
				if !bytes.Equal(d.Kept(), all) {
					t.Fatalf("%+v, %d sectors more, %v: others are kept", s, more, l)
				}
				wantRead(t, d, s, b, l)
			}
		}
	}
}

// P7.3: the most bytes that there can be, and one byte more.
func TestWriteMost(t *testing.T) {
	s := api.Shape{Log: 1, Area: 1, Data: 8188}
	d, _ := dev.New(8192)
	b := filled(3, 64*8188)
	want(t, "Write", blob.Write(d, s, b, runs(4000, 4188, 0, 4000)...), api.OK)
	wantRead(t, d, s, b, runs(4000, 4188, 0, 4000))
	wantRead(t, d, s, b[64*4188:], runs(0, 4000))
	want(t, "a byte more", blob.Write(d, s, append(b, 1), runs(0, 8188)...), api.ErrArg)
	if got, e := blob.Read(d, s, len(b)+1, runs(0, 8188)...); len(got) != 0 || e != api.ErrArg {
		t.Errorf("a byte more: %d bytes, %d", len(got), e)
	}
}

// wantRefused asks that bytes of this length are neither written nor read, with this error.
func wantRefused(t *testing.T, what string, d *dev.Device, s api.Shape, many int, l []api.Run, e api.Errno) {
	t.Helper()
	stat, kept := d.Stat(), d.Kept()
	// There are no bytes of a length below 0, and none of the greatest ones are at hand.
	if many >= 0 && many <= 1<<20 {
		want(t, what+": Write", blob.Write(d, s, filled(1, many), l...), e)
	}
	if b, got := blob.Read(d, s, many, l...); len(b) != 0 || got != e {
		t.Errorf("%s: Read: %d bytes, %d, not %d", what, len(b), got, e)
	}
	wantSame(t, what, d, stat, kept)
}

// P7.3, R1, R5: of no device, and of one that New did not tell, ahead of all else.
func TestNoDevice(t *testing.T) {
	d := shaped(t, small)
	copied := *d
	for _, none := range []*dev.Device{nil, {}, new(dev.Device), &copied} {
		for _, c := range rightWrites {
			wantRefused(t, "no device", none, small, c.many, c.l, api.ErrNil)
		}
		wantRefused(t, "no device, of fewer than no bytes", none, small, -1, nil, api.ErrNil)
		wantRefused(t, "no device, of too many runs", none, small, 1, runs(0, 2), api.ErrNil)
		wantRefused(t, "no device, of a wrong run", none, small, 0, runs(0, 0), api.ErrNil)
		wantRefused(t, "no device, of no shape", none, api.Shape{}, 0, nil, api.ErrNil)
	}
}

// P7.3: runs that are not right, or not apart, however many sectors they have.
func TestWriteWrongRuns(t *testing.T) {
	d := shaped(t, small)
	for what, l := range wrongRuns() {
		for _, many := range []int{0, 1, 64, 65, 128, 12 * 64, 13 * 64} {
			wantRefused(t, what, d, small, many, l, api.ErrArg)
		}
	}
	for n := range 16 {
		wantRefused(t, "sectors twice", d, small, 64*n, runs(3, 1, 3, n-1), api.ErrArg)
	}
}

// P7.3: runs of a sector more than the bytes need, or of one fewer.
func TestWriteOtherSectors(t *testing.T) {
	d := shaped(t, small)
	for many := range 12*64 + 70 {
		for n := 0; n <= 12; n++ {
			l := runs(0, n)
			if n == 0 {
				l = nil
			}
			if n != plainNeed(many) && many%16 < 2 {
				wantRefused(t, "other sectors", d, small, many, l, api.ErrArg)
			}
		}
	}
	wantRefused(t, "a run too many", d, small, 64, runs(0, 1, 5, 1), api.ErrArg)
	wantRefused(t, "a run too few", d, small, 130, runs(0, 1, 5, 1), api.ErrArg)
	wantRefused(t, "no bytes", d, small, 0, runs(0, 1), api.ErrArg)
	wantRefused(t, "no runs", d, small, 1, nil, api.ErrArg)
	for _, many := range []int{-1, -64, -65, math.MinInt, math.MinInt + 63, math.MaxInt, math.MaxInt - 63, 1 << 40} {
		for _, l := range [][]api.Run{nil, runs(0, 1), runs(0, 12), runs(0, 13)} {
			wantRefused(t, "bytes that there are not", d, small, many, l, api.ErrArg)
		}
	}
}

// P7.3: shapes that are not right, and devices that have a sector too few, though not of the runs.
func TestWriteWrongShapes(t *testing.T) {
	d, _ := dev.New(api.MaxSectors)
	for _, s := range wrongShapes {
		for _, l := range [][]api.Run{nil, runs(0, 1), runs(0, 0)} {
			wantRefused(t, "a wrong shape", d, s, 0, l, api.ErrArg)
			wantRefused(t, "a wrong shape", d, s, 9, l, api.ErrArg)
		}
	}
	for sectors := 1; sectors < log.Sectors(small); sectors++ {
		d := device(t, sectors)
		wantRefused(t, "a small device", d, small, 0, nil, api.ErrArg)
		wantRefused(t, "a small device", d, small, 9, runs(0, 1), api.ErrArg)
		wantRefused(t, "a small device", d, small, 64*12, runs(0, 12), api.ErrArg)
	}
}

// P7.3: a device that is down tells so, behind what is asked of the arguments; of no bytes it is not read.
func TestDown(t *testing.T) {
	d := shaped(t, small)
	d.Crash()
	for _, c := range rightWrites {
		if c.many > 0 {
			wantRefused(t, "down", d, small, c.many, c.l, api.ErrDown)
		}
	}
	want(t, "Write of nothing", blob.Write(d, small, nil), api.ErrDown)
	wantRead(t, d, small, nil, nil)
	wantRefused(t, "down, of wrong runs", d, small, 64, runs(12, 1), api.ErrArg)
	wantRefused(t, "down, of other sectors", d, small, 65, runs(0, 1), api.ErrArg)
	wantRefused(t, "down, of fewer than no bytes", d, small, -1, nil, api.ErrArg)
	wantRefused(t, "down, of no shape", d, api.Shape{}, 0, nil, api.ErrArg)
	d.Wake(0)
	want(t, "Write", blob.Write(d, small, []byte{1}, runs(0, 1)...), api.OK)
	wantRead(t, d, small, []byte{1}, runs(0, 1))
}

// R3: neither bytes nor runs are changed or kept, and what is read is memory of its own.
func TestWriteLeavesArguments(t *testing.T) {
	d := shaped(t, small)
	b, l := filled(5, 150), runs(9, 1, 3, 2)
	// What lies behind them in their memory is no part of them.
	longer := append(slices.Clone(b), filled(6, 100)...)
	want(t, "Write", blob.Write(d, small, longer[:150], l...), api.OK)
	if !bytes.Equal(longer, append(slices.Clone(b), filled(6, 100)...)) || !sameRuns(l, runs(9, 1, 3, 2)) {
		t.Error("Write changed what it was given")
	}
	sector, _ := d.Read(5 + 4)
	if !bytes.Equal(sector, append(slices.Clone(b[128:]), make([]byte, 42)...)) {
		t.Errorf("behind the end: %v", sector)
	}
	clear(longer)
	wantRead(t, d, small, b, l)
	got, _ := blob.Read(d, small, 150, l...)
	clear(got)
	wantRead(t, d, small, b, l)
	if !sameRuns(l, runs(9, 1, 3, 2)) {
		t.Error("Read changed the runs")
	}
}
