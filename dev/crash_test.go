package dev_test

import (
	"math"
	"testing"

	"spence/api"
	"spence/dev"
)

// P4.2: the n-th deed is not done; those ahead of it are.
func TestFuse(t *testing.T) {
	for n := 1; n <= 6; n++ {
		d := device(t, 8)
		write(t, d, 7, 7)
		want(t, "Fuse", d.Fuse(n), api.OK)
		for i := 1; i < n; i++ {
			write(t, d, i, byte(i))
			wantStat(t, d, dev.Stat{Sectors: 8, Pending: 1 + i, Deeds: 1 + i})
		}
		want(t, "Write at the fuse's end", d.Write(0, []byte{9}), api.ErrDown)
		wantStat(t, d, dev.Stat{Sectors: 8, Pending: n, Deeds: n, Down: true})
		want(t, "Wake", d.Wake(-1), api.OK)
		wantSeen(t, d, 0)
		wantSeen(t, d, 7, 7)
		for i := 1; i < 7; i++ {
			if i < n {
				wantSeen(t, d, i, byte(i))
			} else {
				wantSeen(t, d, i)
			}
		}
	}
}

// P4.2: a Flush at which the fuse ends keeps nothing, and what is pending stays so.
func TestFuseAtFlush(t *testing.T) {
	d := device(t, 2)
	want(t, "Fuse", d.Fuse(3), api.OK)
	write(t, d, 0, 1)
	write(t, d, 1, 2)
	want(t, "Flush at the fuse's end", d.Flush(), api.ErrDown)
	wantStat(t, d, dev.Stat{Sectors: 2, Pending: 2, Deeds: 2, Down: true})
	wantKept(t, d, 0)
	wantKept(t, d, 1)
	want(t, "Wake", d.Wake(2), api.OK)
	wantSeen(t, d, 0)
	wantSeen(t, d, 1, 2)
	d = device(t, 2)
	want(t, "Fuse", d.Fuse(2), api.OK)
	write(t, d, 0, 1)
	want(t, "Flush at the fuse's end", d.Flush(), api.ErrDown)
	d = device(t, 2)
	want(t, "Fuse", d.Fuse(2), api.OK)
	want(t, "Flush", d.Flush(), api.OK)
	want(t, "Flush at the fuse's end", d.Flush(), api.ErrDown)
}

// P4.2: what is no deed does not bring the fuse nearer to its end.
func TestFuseCountsDeedsAlone(t *testing.T) {
	d := device(t, 2)
	want(t, "Fuse", d.Fuse(1), api.OK)
	for range 3 {
		d.Read(0)
		d.Read(2)
		want(t, "Write to no sector", d.Write(2, nil), api.ErrArg)
		want(t, "Write to no sector", d.Write(-1, nil), api.ErrArg)
		want(t, "Write of too much", d.Write(0, make([]byte, 65)), api.ErrArg)
		d.Spoil(0, 1)
		d.Spoil(0, 512)
		d.Kept()
		want(t, "Wake of a device that is up", d.Wake(1), api.ErrBusy)
		wantStat(t, d, dev.Stat{Sectors: 2})
	}
	want(t, "Write at the fuse's end", d.Write(0, nil), api.ErrDown)
	wantStat(t, d, dev.Stat{Sectors: 2, Down: true})
}

// P4.2: a fuse stands in place of the one ahead of it; one below 1 is none.
func TestFuseInPlaceOfAnother(t *testing.T) {
	d := device(t, 1)
	want(t, "Fuse", d.Fuse(2), api.OK)
	write(t, d, 0, 1)
	want(t, "Fuse", d.Fuse(3), api.OK)
	write(t, d, 0, 2)
	write(t, d, 0, 3)
	want(t, "Write at the fuse's end", d.Write(0, nil), api.ErrDown)
	d = device(t, 1)
	want(t, "Fuse", d.Fuse(9), api.OK)
	want(t, "Fuse", d.Fuse(1), api.OK)
	want(t, "Flush at the fuse's end", d.Flush(), api.ErrDown)
	for _, n := range []int{0, -1, math.MinInt, math.MaxInt} {
		d = device(t, 1)
		want(t, "Fuse", d.Fuse(1), api.OK)
		want(t, "Fuse", d.Fuse(n), api.OK)
		for i := range 20 {
			write(t, d, 0, byte(i))
		}
		wantStat(t, d, dev.Stat{Sectors: 1, Pending: 20, Deeds: 20})
	}
}

// P4.2: there is no fuse behind a Wake, whether the fuse took it down or a Crash, and none is laid while it is down.
func TestWakeHasNoFuse(t *testing.T) {
	for _, crash := range []func(d *dev.Device){
		func(d *dev.Device) { d.Fuse(1); d.Flush() },
		func(d *dev.Device) { d.Fuse(1); d.Crash() },
		func(d *dev.Device) { d.Fuse(3); d.Flush(); d.Crash() },
		func(d *dev.Device) { d.Crash(); want(t, "Fuse while it is down", d.Fuse(1), api.ErrDown) },
	} {
		d := device(t, 1)
		crash(d)
		want(t, "Wake", d.Wake(0), api.OK)
		for range 5 {
			want(t, "Flush", d.Flush(), api.OK)
		}
		// And one can be laid again.
		want(t, "Fuse", d.Fuse(1), api.OK)
		want(t, "Flush at the fuse's end", d.Flush(), api.ErrDown)
	}
}

// P4.2: a device goes down by a Crash, with nothing kept, and up by a Wake alone.
func TestCrashAndWake(t *testing.T) {
	d := device(t, 1)
	for _, keep := range []int{0, 1, -1, math.MinInt} {
		want(t, "Wake of a device that is up", d.Wake(keep), api.ErrBusy)
	}
	write(t, d, 0, 1)
	want(t, "Wake of a device that is up", d.Wake(1), api.ErrBusy)
	wantStat(t, d, dev.Stat{Sectors: 1, Pending: 1, Deeds: 1})
	wantKept(t, d, 0)
	want(t, "Crash", d.Crash(), api.OK)
	want(t, "Crash of a device that is down", d.Crash(), api.ErrDown)
	wantStat(t, d, dev.Stat{Sectors: 1, Pending: 1, Deeds: 1, Down: true})
	wantKept(t, d, 0)
	want(t, "Wake", d.Wake(1), api.OK)
	wantStat(t, d, dev.Stat{Sectors: 1, Deeds: 1})
	wantKept(t, d, 0, 1)
	want(t, "Wake of a device that is up", d.Wake(1), api.ErrBusy)
	// What was woken is pending no more.
	want(t, "Crash", d.Crash(), api.OK)
	want(t, "Wake", d.Wake(0), api.OK)
	wantSeen(t, d, 0, 1)
}

// P4.2: the example of the chapter, and writes of one sector of which some are kept.
func TestWakeOfOneSector(t *testing.T) {
	for keep, b := range map[int]byte{0: 1, 1: 2, 2: 3, 3: 3, 4: 4, 5: 4, 6: 4, 7: 4, 8: 1, 9: 2, -1: 4, -4: 4, -8: 1, -7: 2} {
		d := device(t, 1)
		write(t, d, 0, 1)
		want(t, "Flush", d.Flush(), api.OK)
		write(t, d, 0, 2)
		write(t, d, 0, 3)
		write(t, d, 0, 4)
		want(t, "Crash", d.Crash(), api.OK)
		want(t, "Wake", d.Wake(keep), api.OK)
		wantSeen(t, d, 0, b)
		wantKept(t, d, 0, b)
	}
}

// P4.2: the i-th pending write hangs on the bit i modulo 62 alone.
func TestWakeEachBit(t *testing.T) {
	const writes = 3*62 + 5
	wake := func(keep int, kept func(i int) bool) {
		t.Helper()
		d := device(t, writes)
		for i := range writes {
			write(t, d, i, 1)
		}
		want(t, "Crash", d.Crash(), api.OK)
		want(t, "Wake", d.Wake(keep), api.OK)
		all := d.Kept()
		for i := range writes {
			if got := all[i*api.Sector] == 1; got != kept(i) {
				t.Errorf("Wake(%x): write %d: kept %t", keep, i, got)
			}
		}
	}
	for bit := range 62 {
		wake(1<<bit, func(i int) bool { return i%62 == bit })
		wake(^(1 << bit), func(i int) bool { return i%62 != bit })
	}
	none, all := func(int) bool { return false }, func(int) bool { return true }
	wake(0, none)
	wake(1<<62, none)
	wake(math.MinInt, none)
	wake(math.MinInt|1<<62, none)
	wake(-1, all)
	wake(1<<62-1, all)
	wake(math.MaxInt, all)
}

// P4.2: those that are kept are kept in order, and counted from the last Flush or Wake on.
func TestWakeCountsFromFlush(t *testing.T) {
	d := device(t, 1)
	write(t, d, 0, 1)
	write(t, d, 0, 2)
	want(t, "Flush", d.Flush(), api.OK)
	write(t, d, 0, 3)
	write(t, d, 0, 4)
	want(t, "Crash", d.Crash(), api.OK)
	want(t, "Wake", d.Wake(1), api.OK)
	wantSeen(t, d, 0, 3)
	write(t, d, 0, 5)
	want(t, "Crash", d.Crash(), api.OK)
	want(t, "Wake", d.Wake(1), api.OK)
	wantSeen(t, d, 0, 5)
}

// P4.4: while it is down, ahead of wrong arguments; nothing is changed by it.
func TestDown(t *testing.T) {
	d := device(t, 2)
	write(t, d, 0, 1)
	want(t, "Flush", d.Flush(), api.OK)
	write(t, d, 1, 2)
	want(t, "Crash", d.Crash(), api.OK)
	for range 2 {
		for _, at := range append(noSectors(2), 0, 1) {
			if b, e := d.Read(at); len(b) != 0 || e != api.ErrDown {
				t.Errorf("Read(%d): %v, %d", at, b, e)
			}
			want(t, "Write", d.Write(at, []byte{9}), api.ErrDown)
			want(t, "Write of too much", d.Write(at, make([]byte, 65)), api.ErrDown)
		}
		want(t, "Flush", d.Flush(), api.ErrDown)
		for _, n := range []int{1, 0, -1} {
			want(t, "Fuse", d.Fuse(n), api.ErrDown)
		}
		want(t, "Crash", d.Crash(), api.ErrDown)
		wantStat(t, d, dev.Stat{Sectors: 2, Pending: 1, Deeds: 3, Down: true})
		wantKept(t, d, 0, 1)
		wantKept(t, d, 1)
	}
	want(t, "Wake", d.Wake(-1), api.OK)
	wantSeen(t, d, 0, 1)
	wantSeen(t, d, 1, 2)
}

// P4.4, R5: of no device, of one that New did not tell, and of a copy, there is nothing.
func TestNoDevice(t *testing.T) {
	d := device(t, 1)
	write(t, d, 0, 1)
	up := *d
	want(t, "Crash", d.Crash(), api.OK)
	down := *d
	for i, none := range []*dev.Device{nil, {}, new(dev.Device), &up, &down} {
		for range 2 {
			for _, at := range []int{0, 1, -1} {
				if b, e := none.Read(at); len(b) != 0 || e != api.ErrNil {
					t.Errorf("%d: Read(%d): %v, %d", i, at, b, e)
				}
				want(t, "Write", none.Write(at, []byte{9}), api.ErrNil)
				want(t, "Write of too much", none.Write(at, make([]byte, 65)), api.ErrNil)
				want(t, "Fuse", none.Fuse(at), api.ErrNil)
				want(t, "Wake", none.Wake(at), api.ErrNil)
				want(t, "Spoil", none.Spoil(at, 0), api.ErrNil)
				want(t, "Spoil", none.Spoil(at, -1), api.ErrNil)
			}
			want(t, "Flush", none.Flush(), api.ErrNil)
			want(t, "Crash", none.Crash(), api.ErrNil)
			if len(none.Kept()) != 0 {
				t.Errorf("%d: something is kept", i)
			}
			wantStat(t, none, dev.Stat{})
		}
	}
	wantStat(t, d, dev.Stat{Sectors: 1, Pending: 1, Deeds: 1, Down: true})
	wantKept(t, d, 0)
}
