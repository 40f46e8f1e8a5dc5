package log_test

import (
	"bytes"
	"testing"

	"spence/api"
	"spence/dev"
	"spence/log"
)

// wantRefused asks that a journal that is none, or is down, tells this error, and does nothing.
func wantRefused(t *testing.T, d *dev.Device, j *log.Journal, e api.Errno) {
	t.Helper()
	stat, kept := d.Stat(), d.Kept()
	for range 2 {
		area, got := j.Area()
		want(t, "Area", got, e)
		l, got := j.Records()
		want(t, "Records", got, e)
		if len(area) != 0 || len(l) != 0 || j.Room() != 0 || j.Round() != 0 {
			t.Errorf("something is told beside an error: %s", told(j))
		}
		for _, many := range []int{0, 1, 10, 127, 128, 1 << 20, 1<<20 + 1} {
			want(t, "Append", j.Append(row(1, many)), e)
			want(t, "Switch", j.Switch(row(1, many)), e)
		}
	}
	if d.Stat() != stat || !bytes.Equal(d.Kept(), kept) {
		t.Error("something is done beside an error")
	}
}

// P5.4, R5: of no journal, and of one that Open did not tell.
func TestNoJournal(t *testing.T) {
	d, j, p := formatted(t, small)
	want(t, "Append", j.Append(row(1, 9)), p.append(t, row(1, 9)))
	copied := *j
	for _, none := range []*log.Journal{nil, {}, new(log.Journal), &copied} {
		wantRefused(t, d, none, api.ErrNil)
	}
	p.wantAlike(t, d, j)
}

// P5.4: each error of the device takes the journal down, and it stays so though the device is woken; one that is opened then is up.
func TestDown(t *testing.T) {
	for what, run := range map[string]func(d *dev.Device, j *log.Journal) api.Errno{
		"Area":    func(d *dev.Device, j *log.Journal) api.Errno { _, e := j.Area(); return e },
		"Records": func(d *dev.Device, j *log.Journal) api.Errno { _, e := j.Records(); return e },
		"Append":  func(d *dev.Device, j *log.Journal) api.Errno { return j.Append(row(2, 5)) },
		"Switch":  func(d *dev.Device, j *log.Journal) api.Errno { return j.Switch(row(2, 5)) },
		"Switch of nothing": func(d *dev.Device, j *log.Journal) api.Errno {
			return j.Switch(nil)
		},
	} {
		d, j, p := formatted(t, small)
		want(t, "Switch", j.Switch(row(1, 9)), p.turn(t, row(1, 9)))
		want(t, "Append", j.Append(row(1, 9)), p.append(t, row(1, 9)))
		d.Crash()
		want(t, what, run(d, j), api.ErrDown)
		wantRefused(t, d, j, api.ErrDown)
		want(t, "Wake", d.Wake(0), api.OK)
		wantRefused(t, d, j, api.ErrDown)
		p.wantAlike(t, d, open(t, d, small))
		wantRefused(t, d, j, api.ErrDown)
	}
}

// P5.4: at whichever deed of an Append, of a Switch, it crashes, the journal is down.
func TestDownAtFuses(t *testing.T) {
	for n := 1; n <= 6; n++ {
		d, j, _ := formatted(t, small)
		d.Fuse(n)
		e := api.ErrDown
		if n > 5 {
			e = api.OK
		}
		want(t, "Append", j.Append(row(1, 100)), e)
		if e != api.OK {
			wantRefused(t, d, j, e)
			d.Wake(-1)
			wantRefused(t, d, j, e)
		}
	}
	for n := 1; n <= 7; n++ {
		d, j, _ := formatted(t, small)
		d.Fuse(n)
		e := api.ErrDown
		if n > 6 {
			e = api.OK
		}
		want(t, "Switch", j.Switch(row(1, 150)), e)
		if e != api.OK {
			wantRefused(t, d, j, e)
			d.Wake(-1)
			wantRefused(t, d, j, e)
		}
	}
}

// P5.4, R2: of one that is down Round is 0, as Room is, whatever round it had.
func TestRoundOfDown(t *testing.T) {
	for many := range 4 {
		d, j, p := formatted(t, small)
		for range many {
			want(t, "Append", j.Append(row(1, 9)), p.append(t, row(1, 9)))
		}
		if j.Round() != many+1 {
			t.Errorf("Round: %d", j.Round())
		}
		d.Fuse(1)
		want(t, "Append of one that crashes", j.Append(row(2, 70)), api.ErrDown)
		for range 2 {
			if j.Round() != 0 || j.Room() != 0 {
				t.Errorf("down: Round %d, Room %d", j.Round(), j.Room())
			}
			d.Wake(0)
		}
		p.wantAlike(t, d, open(t, d, small))
	}
}

// P5.4: a device that told nothing to the journal does not take it down, nor does what is too long.
func TestNotDown(t *testing.T) {
	d, j, p := formatted(t, small)
	want(t, "Append", j.Append(row(1, 9)), p.append(t, row(1, 9)))
	want(t, "Append of too much", j.Append(row(1, 128)), api.ErrLong)
	want(t, "Switch of too much", j.Switch(row(1, 193)), api.ErrLong)
	p.wantAlike(t, d, j)
	d.Crash()
	if j.Room() != p.room() || j.Round() != 2 {
		t.Errorf("Room %d, Round %d", j.Room(), j.Round())
	}
	want(t, "Append of too much", j.Append(row(1, 128)), api.ErrLong)
	want(t, "Switch of too much", j.Switch(row(1, 193)), api.ErrLong)
	want(t, "Wake", d.Wake(0), api.OK)
	p.wantAlike(t, d, j)
	want(t, "Append", j.Append(row(2, 9)), p.append(t, row(2, 9)))
	p.wantAlike(t, d, j)
}

// P5.2: where bits of the log are turned behind an Open there may be no records any more: none are told, and the journal is up.
func TestSpoiltRecords(t *testing.T) {
	d, j, p := formatted(t, small)
	want(t, "Append", j.Append(row(1, 9)), p.append(t, row(1, 9)))
	want(t, "Spoil", d.Spoil(1, 6), api.OK)
	if l, e := j.Records(); len(l) != 0 || e != api.ErrShape {
		t.Errorf("Records: %v, %d", l, e)
	}
	want(t, "Spoil", d.Spoil(1, 6), api.OK)
	p.wantAlike(t, d, j)
}
