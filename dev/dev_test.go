package dev_test

import (
	"bytes"
	"math"
	"testing"

	"spence/api"
	"spence/dev"
)

// device is a device of so many sectors.
func device(t *testing.T, sectors int) *dev.Device {
	t.Helper()
	d, e := dev.New(sectors)
	if d == nil || e != api.OK {
		t.Fatalf("New(%d): %v, %d", sectors, d, e)
	}
	return d
}

// want asks that a call told this error.
func want(t *testing.T, what string, got, e api.Errno) {
	t.Helper()
	if got != e {
		t.Errorf("%s: %d, not %d", what, got, e)
	}
}

// padded is b with noughts behind it, up to a sector.
func padded(b ...byte) []byte {
	s := make([]byte, api.Sector)
	copy(s, b)
	return s
}

// full is a sector of one byte.
func full(b byte) []byte {
	return bytes.Repeat([]byte{b}, api.Sector)
}

// write writes a sector, which must be told OK.
func write(t *testing.T, d *dev.Device, at int, b ...byte) {
	t.Helper()
	want(t, "Write", d.Write(at, b), api.OK)
}

// wantSeen asks for what is seen of a sector: these bytes, and noughts.
func wantSeen(t *testing.T, d *dev.Device, at int, b ...byte) {
	t.Helper()
	if got, e := d.Read(at); !bytes.Equal(got, padded(b...)) || e != api.OK {
		t.Errorf("Read(%d): %v, %d, not %v", at, got, e, padded(b...))
	}
}

// wantKept asks for what is kept of a sector: these bytes, and noughts.
func wantKept(t *testing.T, d *dev.Device, at int, b ...byte) {
	t.Helper()
	all := d.Kept()
	if len(all) < (at+1)*api.Sector {
		t.Fatalf("Kept: %d bytes", len(all))
	}
	if got := all[at*api.Sector : (at+1)*api.Sector]; !bytes.Equal(got, padded(b...)) {
		t.Errorf("kept of %d: %v, not %v", at, got, padded(b...))
	}
}

// wantStat asks for what there is to say of a device.
func wantStat(t *testing.T, d *dev.Device, s dev.Stat) {
	t.Helper()
	if got := d.Stat(); got != s {
		t.Errorf("Stat: %+v, not %+v", got, s)
	}
}

// noSectors are numbers that no sector of a device of so many has.
func noSectors(sectors int) []int {
	return []int{-1, sectors, sectors + 1, math.MinInt, math.MaxInt}
}

// P4.1: how many sectors a device may have, and that they are noughts.
func TestNew(t *testing.T) {
	for _, sectors := range []int{1, 2, 100, api.MaxSectors - 1, api.MaxSectors} {
		d := device(t, sectors)
		wantStat(t, d, dev.Stat{Sectors: sectors})
		if got := d.Kept(); !bytes.Equal(got, make([]byte, sectors*api.Sector)) {
			t.Errorf("of %d sectors: %d bytes are kept, or they are no noughts", sectors, len(got))
		}
		wantSeen(t, d, 0)
		wantSeen(t, d, sectors-1)
	}
	for _, sectors := range []int{0, -1, math.MinInt, api.MaxSectors + 1, math.MaxInt} {
		if d, e := dev.New(sectors); d != nil || e != api.ErrArg {
			t.Errorf("New(%d): %v, %d", sectors, d, e)
		}
	}
}

// P4.1: what may not be read or written, of which nothing comes.
func TestWrongArguments(t *testing.T) {
	for _, sectors := range []int{1, 3, api.MaxSectors} {
		d := device(t, sectors)
		for _, at := range noSectors(sectors) {
			if b, e := d.Read(at); len(b) != 0 || e != api.ErrArg {
				t.Errorf("Read(%d) of %d: %v, %d", at, sectors, b, e)
			}
			want(t, "Write to no sector", d.Write(at, []byte{1}), api.ErrArg)
		}
		for _, many := range []int{api.Sector + 1, 2 * api.Sector, 1 << 20} {
			want(t, "Write of too much", d.Write(0, bytes.Repeat([]byte{1}, many)), api.ErrArg)
		}
		wantStat(t, d, dev.Stat{Sectors: sectors})
		wantSeen(t, d, 0)
	}
}

// P4.1: a write of each length that may be, over another one, has noughts behind it.
func TestWriteOfEachLength(t *testing.T) {
	for many := range api.Sector + 1 {
		d := device(t, 3)
		write(t, d, 1, full(9)...)
		write(t, d, 1, full(7)[:many]...)
		wantSeen(t, d, 0)
		wantSeen(t, d, 1, full(7)[:many]...)
		wantSeen(t, d, 2)
		wantKept(t, d, 1)
		want(t, "Flush", d.Flush(), api.OK)
		wantSeen(t, d, 1, full(7)[:many]...)
		wantKept(t, d, 1, full(7)[:many]...)
	}
	d := device(t, 1)
	write(t, d, 0, full(9)...)
	want(t, "Write of nil", d.Write(0, nil), api.OK)
	wantSeen(t, d, 0)
}

// P4.1: the last pending write of a sector is seen; what is kept is as it was.
func TestReadSeesPending(t *testing.T) {
	d := device(t, 2)
	write(t, d, 0, 1)
	want(t, "Flush", d.Flush(), api.OK)
	wantSeen(t, d, 0, 1)
	write(t, d, 0, 2, 2)
	wantSeen(t, d, 0, 2, 2)
	write(t, d, 1, 5)
	wantSeen(t, d, 0, 2, 2)
	write(t, d, 0, 3)
	wantSeen(t, d, 0, 3)
	wantSeen(t, d, 1, 5)
	wantKept(t, d, 0, 1)
	wantKept(t, d, 1)
	wantStat(t, d, dev.Stat{Sectors: 2, Pending: 3, Deeds: 5})
}

// P4.1: all that is pending is kept by a Flush, the last write of a sector last, however many there are.
func TestFlushKeepsAll(t *testing.T) {
	d := device(t, 4)
	want(t, "Flush of nothing", d.Flush(), api.OK)
	for i := range 200 {
		write(t, d, i%3, byte(i))
	}
	wantStat(t, d, dev.Stat{Sectors: 4, Pending: 200, Deeds: 201})
	want(t, "Flush", d.Flush(), api.OK)
	wantStat(t, d, dev.Stat{Sectors: 4, Deeds: 202})
	for at, b := range []byte{198, 199, 197, 0} {
		wantKept(t, d, at, b)
		wantSeen(t, d, at, b)
	}
	want(t, "Flush", d.Flush(), api.OK)
	wantKept(t, d, 0, 198)
	// What was flushed is pending no more: it does not come back.
	write(t, d, 0, 7)
	want(t, "Crash", d.Crash(), api.OK)
	want(t, "Wake", d.Wake(0), api.OK)
	wantSeen(t, d, 0, 198)
}

// P4.3: each bit of a sector that is kept, alone, and turned back.
func TestSpoilEachBit(t *testing.T) {
	d := device(t, 3)
	write(t, d, 1, full(0xa5)...)
	want(t, "Flush", d.Flush(), api.OK)
	for bit := range 8 * api.Sector {
		s := full(0xa5)
		s[bit/8] ^= []byte{1, 2, 4, 8, 16, 32, 64, 128}[bit%8]
		want(t, "Spoil", d.Spoil(1, bit), api.OK)
		wantKept(t, d, 0)
		wantKept(t, d, 1, s...)
		wantKept(t, d, 2)
		wantSeen(t, d, 1, s...)
		want(t, "Spoil", d.Spoil(1, bit), api.OK)
		wantKept(t, d, 1, full(0xa5)...)
	}
	wantStat(t, d, dev.Stat{Sectors: 3, Deeds: 2})
}

// P4.3: what is pending is not spoilt, and hides what is.
func TestSpoilBehindPending(t *testing.T) {
	d := device(t, 2)
	write(t, d, 0, 4)
	want(t, "Spoil", d.Spoil(0, 0), api.OK)
	wantSeen(t, d, 0, 4)
	wantKept(t, d, 0, 1)
	want(t, "Flush", d.Flush(), api.OK)
	wantKept(t, d, 0, 4)
	write(t, d, 0, 8)
	want(t, "Crash", d.Crash(), api.OK)
	want(t, "Spoil of a device that is down", d.Spoil(0, 1), api.OK)
	wantKept(t, d, 0, 6)
	wantStat(t, d, dev.Stat{Sectors: 2, Pending: 1, Deeds: 3, Down: true})
	want(t, "Wake", d.Wake(0), api.OK)
	wantSeen(t, d, 0, 6)
}

// P4.3: what may not be spoilt, up or down, of which nothing comes.
func TestSpoilWrong(t *testing.T) {
	d := device(t, 2)
	for range 2 {
		for _, at := range noSectors(2) {
			want(t, "Spoil of no sector", d.Spoil(at, 0), api.ErrArg)
		}
		for _, bit := range []int{-1, -8, 512, 513, math.MinInt, math.MaxInt} {
			want(t, "Spoil of no bit", d.Spoil(0, bit), api.ErrArg)
			want(t, "Spoil of no bit", d.Spoil(1, bit), api.ErrArg)
		}
		if !bytes.Equal(d.Kept(), make([]byte, 2*api.Sector)) {
			t.Error("something is spoilt")
		}
		d.Crash()
	}
	want(t, "Spoil of the last bit", d.Spoil(1, 511), api.OK)
	if got := d.Kept(); got[2*api.Sector-1] != 128 {
		t.Errorf("the last byte: %d", got[2*api.Sector-1])
	}
}

// P4.3: all that is kept, in the order of its sectors, of a device that is down, too.
func TestKept(t *testing.T) {
	d := device(t, 5)
	var all []byte
	for at := range 5 {
		write(t, d, at, full(byte(at+1))...)
		all = append(all, full(byte(at+1))...)
	}
	if !bytes.Equal(d.Kept(), make([]byte, 5*api.Sector)) {
		t.Error("pending writes are kept")
	}
	want(t, "Flush", d.Flush(), api.OK)
	if !bytes.Equal(d.Kept(), all) {
		t.Error("flushed writes are not kept")
	}
	write(t, d, 0, 77)
	want(t, "Crash", d.Crash(), api.OK)
	if !bytes.Equal(d.Kept(), all) {
		t.Error("down it has kept something else")
	}
}

// P4.3: only a Write and a Flush that are done are deeds.
func TestStatDeeds(t *testing.T) {
	d := device(t, 2)
	d.Read(0)
	d.Read(9)
	d.Write(9, nil)
	d.Write(0, make([]byte, 65))
	d.Fuse(3)
	d.Fuse(0)
	d.Spoil(0, 0)
	d.Kept()
	d.Stat()
	d.Wake(1)
	wantStat(t, d, dev.Stat{Sectors: 2})
	d.Write(0, nil)
	wantStat(t, d, dev.Stat{Sectors: 2, Pending: 1, Deeds: 1})
	d.Flush()
	wantStat(t, d, dev.Stat{Sectors: 2, Deeds: 2})
	d.Write(1, nil)
	d.Crash()
	wantStat(t, d, dev.Stat{Sectors: 2, Pending: 1, Deeds: 3, Down: true})
	d.Write(0, nil)
	d.Flush()
	wantStat(t, d, dev.Stat{Sectors: 2, Pending: 1, Deeds: 3, Down: true})
	d.Wake(0)
	wantStat(t, d, dev.Stat{Sectors: 2, Deeds: 3})
}

// R3: a device does not keep what it is given, and what it tells is new memory.
func TestKeepsNoArgument(t *testing.T) {
	d := device(t, 2)
	b := []byte{1, 2, 3, 4}
	want(t, "Write", d.Write(0, b[:2]), api.OK)
	b[0] = 99
	wantSeen(t, d, 0, 1, 2)
	if !bytes.Equal(b, []byte{99, 2, 3, 4}) {
		t.Errorf("an argument is changed: %v", b)
	}
	for _, flushed := range []bool{false, true} {
		got, _ := d.Read(0)
		clear(got)
		_ = append(got, 88)
		wantSeen(t, d, 0, 1, 2)
		if !flushed {
			want(t, "Flush", d.Flush(), api.OK)
		}
	}
	all := d.Kept()
	for i := range all {
		all[i] = 7
	}
	_ = append(all, 7)
	wantKept(t, d, 0, 1, 2)
	wantKept(t, d, 1)
}
