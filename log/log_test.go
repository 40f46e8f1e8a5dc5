package log_test

import (
	"bytes"
	"fmt"
	"slices"
	"testing"

	"spence/api"
	"spence/dev"
	"spence/log"
)

// small is a shape of two sectors of a log, and areas of three.
var small = api.Shape{Log: 2, Area: 3, Data: 2}

// want asks that a call told this error.
func want(t *testing.T, what string, got, e api.Errno) {
	t.Helper()
	if got != e {
		t.Errorf("%s: %d, not %d", what, got, e)
	}
}

// row is so many bytes, none of them nought, and no two rows of other seeds alike.
func row(seed, many int) []byte {
	b := make([]byte, many)
	for i := range b {
		b[i] = byte(1 + (seed*31+i*7+i/255)%255)
	}
	return b
}

// device is a device of so many sectors.
func device(t *testing.T, sectors int) *dev.Device {
	t.Helper()
	d, e := dev.New(sectors)
	if d == nil || e != api.OK {
		t.Fatalf("New(%d): %d", sectors, e)
	}
	return d
}

// used is a device of which no byte that is kept is nought.
func used(t *testing.T, sectors int) *dev.Device {
	t.Helper()
	d := device(t, sectors)
	for at := range sectors {
		put(t, d, at, row(at, 64)...)
	}
	return d
}

// put writes bytes to a sector, noughts behind them, and keeps them.
func put(t *testing.T, d *dev.Device, at int, b ...byte) {
	t.Helper()
	want(t, "Write", d.Write(at, b), api.OK)
	want(t, "Flush", d.Flush(), api.OK)
}

// open is the device's journal, which must be there.
func open(t *testing.T, d *dev.Device, s api.Shape) *log.Journal {
	t.Helper()
	j, e := log.Open(d, s)
	if j == nil || e != api.OK {
		t.Fatalf("Open: %d", e)
	}
	return j
}

// formatted is a used device just as large as a shape, an empty journal on it, and what it is after the chapter's words.
func formatted(t *testing.T, s api.Shape) (*dev.Device, *log.Journal, *plain) {
	t.Helper()
	d := used(t, log.Sectors(s))
	p := newPlain(t, s, d.Kept())
	want(t, "Format", log.Format(d, s), api.OK)
	return d, open(t, d, s), p
}

// sameLists says whether lists have the same bytes.
func sameLists(a, b [][]byte) bool {
	return slices.EqualFunc(a, b, bytes.Equal)
}

// brief is bytes to be read: how many, and the first ones.
func brief(b []byte) string {
	return fmt.Sprintf("%d%v", len(b), b[:min(len(b), 8)])
}

// told is all that a journal tells, to be read.
func told(j *log.Journal) string {
	area, ea := j.Area()
	l, el := j.Records()
	var texts []string
	for _, b := range l {
		texts = append(texts, brief(b))
	}
	return fmt.Sprintf("Area %s, %d; Records %v, %d; Room %d; Round %d", brief(area), ea, texts, el, j.Room(), j.Round())
}

// P5.1: a head is told of area 0, without bytes, round 1; nothing else is another one.
func TestFormat(t *testing.T) {
	for _, s := range []api.Shape{small, {Log: 1, Area: 1, Data: 1}} {
		for _, more := range []int{0, 1, 7} {
			d := used(t, log.Sectors(s)+more)
			before, deeds := d.Kept(), d.Stat().Deeds
			want(t, "Format", log.Format(d, s), api.OK)
			head := append([]byte{0, 0, 0, 1}, make([]byte, 60)...)
			if got := d.Kept(); !bytes.Equal(got[:64], head) || !bytes.Equal(got[64:], before[64:]) {
				t.Errorf("%+v: kept is %v", s, got)
			}
			if got := d.Stat(); got.Deeds != deeds+2 || got.Pending != 0 {
				t.Errorf("%+v: %+v", s, got)
			}
			j := open(t, d, s)
			if got := told(j); got != fmt.Sprintf("Area 0[], 0; Records [], 0; Room %d; Round 1", 64*s.Log) {
				t.Errorf("%+v: %s", s, got)
			}
		}
	}
}

// P5.1: the greatest shapes are formatted and opened, too.
func TestFormatOfGreatShapes(t *testing.T) {
	for _, c := range rightShapes {
		d := device(t, c.sectors)
		want(t, "Format", log.Format(d, c.s), api.OK)
		if j := open(t, d, c.s); j.Room() != 64*c.s.Log || j.Round() != 1 {
			t.Errorf("%+v: %s", c.s, told(j))
		}
	}
}

// P5.1: what was there is there no more.
func TestFormatAgain(t *testing.T) {
	d, j, _ := formatted(t, small)
	want(t, "Switch", j.Switch(row(1, 100)), api.OK)
	want(t, "Append", j.Append(row(2, 50)), api.OK)
	p := newPlain(t, small, d.Kept())
	want(t, "Format", log.Format(d, small), api.OK)
	p.wantAlike(t, d, open(t, d, small))
}

// P5.1: the error of each deed of a Format.
func TestFormatCrashed(t *testing.T) {
	for n := 1; n <= 3; n++ {
		d := used(t, log.Sectors(small))
		d.Fuse(n)
		e := api.OK
		if n <= 2 {
			e = api.ErrDown
		}
		want(t, "Format", log.Format(d, small), e)
		if got := d.Stat().Pending; n == 2 && got != 1 || n != 2 && got != 0 {
			t.Errorf("at fuse %d: %d pending", n, got)
		}
	}
}

// wantNone asks that Format and Open tell this error, and do nothing.
func wantNone(t *testing.T, d *dev.Device, s api.Shape, e api.Errno) {
	t.Helper()
	kept, stat := d.Kept(), d.Stat()
	want(t, "Format", log.Format(d, s), e)
	j, got := log.Open(d, s)
	want(t, "Open", got, e)
	if j != nil {
		t.Error("there is a journal beside an error")
	}
	if !bytes.Equal(d.Kept(), kept) || d.Stat() != stat {
		t.Error("something is done beside an error")
	}
}

// P5.1, P5.2: no device, ahead of a shape that is not right; a shape that is not, a device that is too small, ahead of one that is down.
func TestFormatAndOpenWrong(t *testing.T) {
	for _, d := range []*dev.Device{nil, {}} {
		wantNone(t, d, small, api.ErrNil)
		for _, s := range wrongShapes() {
			wantNone(t, d, s, api.ErrNil)
		}
	}
	great, exact, less := device(t, api.MaxSectors), device(t, log.Sectors(small)), device(t, log.Sectors(small)-1)
	want(t, "Format", log.Format(exact, small), api.OK)
	for _, at := range []int{0, 1} {
		b, _ := exact.Read(at)
		put(t, great, at, b...)
		put(t, less, at, b...)
	}
	for range 2 {
		for _, s := range wrongShapes() {
			wantNone(t, great, s, api.ErrArg)
		}
		wantNone(t, less, small, api.ErrArg)
		wantNone(t, device(t, 1), small, api.ErrArg)
		great.Crash()
		less.Crash()
	}
	exact.Crash()
	wantNone(t, exact, small, api.ErrDown)
	want(t, "Wake", exact.Wake(0), api.OK)
	open(t, exact, small)
	open(t, device2(t, exact), small)
}

// device2 is a device with one sector more, which has kept the same.
func device2(t *testing.T, d *dev.Device) *dev.Device {
	t.Helper()
	all := d.Kept()
	two := device(t, len(all)/64+1)
	for at := range len(all) / 64 {
		put(t, two, at, all[64*at:][:64]...)
	}
	return two
}

// P5.3: an Append writes the record's text behind those that count; each byte of the device is as the chapter says.
func TestAppend(t *testing.T) {
	d, j, p := formatted(t, small)
	for i, many := range []int{0, 1, 5, 0, 60, 30, 3, 1, 0} {
		b := row(i, many)
		want(t, "Append", j.Append(b), p.append(t, b))
		p.wantAlike(t, d, j)
	}
	if l, _ := j.Records(); len(l) != 9 || len(l[0]) != 0 || !bytes.Equal(l[4], row(4, 60)) || j.Round() != 10 {
		t.Error(told(j))
	}
}

// P5.3: nil and no bytes are one record.
func TestAppendOfNil(t *testing.T) {
	_, j, _ := formatted(t, small)
	want(t, "Append", j.Append(nil), api.OK)
	if l, _ := j.Records(); len(l) != 1 || len(l[0]) != 0 || j.Room() != 127 {
		t.Error(told(j))
	}
}

// filled appends a record whose text has so many bytes, of which there is one.
func filled(t *testing.T, j *log.Journal, p *plain, many int) {
	t.Helper()
	for n := range many {
		if b := row(1, n); len(record(b)) == many {
			want(t, "Append", j.Append(b), p.append(t, b))
			return
		}
	}
}

// P5.3: a record whose text has just the room, and ones that are longer; nothing comes of those.
func TestAppendRoom(t *testing.T) {
	for _, c := range []struct{ logs, ahead, fits int }{
		{1, 0, 63}, {2, 0, 127}, {2, 1, 126}, {2, 126, 1}, {2, 127, 0},
		// Where lengths have two bytes, or three, some room can be left.
		{3, 0, 190}, {3, 61, 129}, {3, 62, 128}, {3, 63, 127}, {3, 64, 127}, {3, 65, 126},
		{300, 0, 19197}, {300, 2813, 16384}, {300, 2814, 16383}, {300, 2815, 16383}, {300, 2816, 16382},
	} {
		d, j, p := formatted(t, api.Shape{Log: c.logs, Area: 1, Data: 1})
		filled(t, j, p, c.ahead)
		for _, more := range []int{1, 2, 100, 1 << 20, 1<<20 + 1} {
			want(t, "Append of too much", j.Append(row(2, c.fits+more)), api.ErrLong)
			p.wantAlike(t, d, j)
		}
		want(t, "Append of what has room", j.Append(row(3, c.fits)), p.append(t, row(3, c.fits)))
		p.wantAlike(t, d, j)
		if l, _ := j.Records(); !bytes.Equal(l[len(l)-1], row(3, c.fits)) {
			t.Errorf("%+v: the record is not there", c)
		}
	}
}

// P5.3: where there is no room not even an empty record has any.
func TestAppendFull(t *testing.T) {
	d, j, p := formatted(t, small)
	want(t, "Append", j.Append(row(1, 127)), p.append(t, row(1, 127)))
	if j.Room() != 0 {
		t.Errorf("Room: %d", j.Room())
	}
	stat := d.Stat()
	want(t, "Append of nothing", j.Append(nil), api.ErrLong)
	want(t, "Append of a byte", j.Append([]byte{1}), api.ErrLong)
	if d.Stat() != stat {
		t.Error("something is written beside an error")
	}
	p.wantAlike(t, d, j)
	want(t, "Switch", j.Switch(nil), p.turn(t, nil))
	want(t, "Append", j.Append(nil), p.append(t, nil))
	p.wantAlike(t, d, j)
}

// P5.3: a Switch writes the area that does not count, from its begin on; what stands behind its bytes stays; the log counts no more.
func TestSwitch(t *testing.T) {
	d, j, p := formatted(t, small)
	for i, many := range []int{1, 64, 0, 65, 191, 192, 2, 0, 0, 130, 7} {
		b := row(i, many)
		want(t, "Switch", j.Switch(b), p.turn(t, b))
		p.wantAlike(t, d, j)
		for k := range i % 3 {
			want(t, "Append", j.Append(row(k, 9)), p.append(t, row(k, 9)))
			p.wantAlike(t, d, j)
		}
	}
}

// P5.3: more than an area has is not written.
func TestSwitchLong(t *testing.T) {
	d, j, p := formatted(t, small)
	want(t, "Append", j.Append(row(1, 9)), p.append(t, row(1, 9)))
	stat := d.Stat()
	for _, many := range []int{193, 194, 256, 1 << 20} {
		want(t, "Switch", j.Switch(row(2, many)), api.ErrLong)
	}
	if d.Stat() != stat {
		t.Error("something is written beside an error")
	}
	p.wantAlike(t, d, j)
	want(t, "Switch", j.Switch(row(2, 192)), p.turn(t, row(2, 192)))
	want(t, "Switch", j.Switch(row(2, 193)), api.ErrLong)
	p.wantAlike(t, d, j)
}

// P5.3: each sector is written once, then a Flush, the head, a Flush.
func TestDeeds(t *testing.T) {
	d, j, p := formatted(t, api.Shape{Log: 4, Area: 3, Data: 1})
	for i, c := range []struct{ of, many, writes int }{
		{1, 0, 0}, {1, 1, 1}, {1, 64, 1}, {1, 65, 2}, {1, 128, 2}, {1, 129, 3}, {1, 192, 3},
		{0, 0, 1}, {0, 62, 1}, {0, 62, 1}, {0, 0, 1}, {0, 0, 1}, {0, 126, 2}, {1, 0, 0}, {0, 191, 4}, {0, 62, 1},
	} {
		deeds, b := d.Stat().Deeds, row(i, c.many)
		if c.of == 1 {
			want(t, "Switch", j.Switch(b), p.turn(t, b))
		} else {
			want(t, "Append", j.Append(b), p.append(t, b))
		}
		if got := d.Stat().Deeds - deeds; got != c.writes+3 {
			t.Errorf("call %d: %d deeds, not %d", i, got, c.writes+3)
		}
	}
	p.wantAlike(t, d, j)
	deeds := d.Stat().Deeds
	told(j)
	open(t, d, p.s)
	if d.Stat().Deeds != deeds {
		t.Error("what tells only does deeds")
	}
}

// P5.3: sectors are written in order, each whole, the head behind a Flush of them.
func TestOrderOfWrites(t *testing.T) {
	s := api.Shape{Log: 3, Area: 3, Data: 1}
	for _, c := range []struct {
		at  int
		run func(j *log.Journal) api.Errno
	}{
		{7, func(j *log.Journal) api.Errno { return j.Switch(row(1, 180)) }},
		{1, func(j *log.Journal) api.Errno { return j.Append(row(1, 180)) }},
	} {
		for n := 1; n <= 6; n++ {
			d, j, _ := formatted(t, s)
			d.Fuse(n)
			want(t, "at a fuse", c.run(j), api.ErrDown)
			if pending := d.Stat().Pending; pending != []int{0, 1, 2, 3, 0, 1}[n-1] {
				t.Errorf("at fuse %d: %d pending", n, pending)
			}
			before := d.Kept()
			d.Wake(-1)
			var others []int
			for at := range log.Sectors(s) {
				if !bytes.Equal(d.Kept()[64*at:][:64], before[64*at:][:64]) {
					others = append(others, at)
				}
			}
			if wrote := [][]int{nil, {c.at}, {c.at, c.at + 1}, {c.at, c.at + 1, c.at + 2}, nil, {0}}[n-1]; !slices.Equal(others, wrote) {
				t.Errorf("at fuse %d: pending are %v, not %v", n, others, wrote)
			}
		}
	}
}

// R3: no argument is changed or kept, and what is told is new memory.
func TestKeepsNoArgument(t *testing.T) {
	d, j, p := formatted(t, small)
	all := row(5, 60)
	given := all[:20]
	for range 2 {
		want(t, "Append", j.Append(given), p.append(t, given))
	}
	want(t, "Switch", j.Switch(given), p.turn(t, given))
	want(t, "Append", j.Append(given), p.append(t, given))
	want(t, "Append", j.Append(given), p.append(t, given))
	if !bytes.Equal(all, row(5, 60)) {
		t.Error("an argument is changed")
	}
	clear(all)
	p.wantAlike(t, d, j)
	area, _ := j.Area()
	clear(area)
	_ = append(area, 1)
	l, _ := j.Records()
	_ = append(l[0], 1)
	if !bytes.Equal(l[1], row(5, 20)) {
		t.Error("lists of one answer share memory")
	}
	clear(l[0])
	clear(l[1])
	p.wantAlike(t, d, j)
}

// R4, R8: two devices are answered alike, and a journal hangs on its own device alone.
func TestAlikeEachTime(t *testing.T) {
	one, j, _ := formatted(t, small)
	two, k, _ := formatted(t, small)
	other, l, p := formatted(t, small)
	for i := range 30 {
		for _, x := range []*log.Journal{j, k} {
			if x.Append(row(i, i)) == api.ErrLong {
				want(t, "Switch", x.Switch(row(i, 6*i)), api.OK)
			}
		}
	}
	if told(j) != told(k) || !bytes.Equal(one.Kept(), two.Kept()) || one.Stat() != two.Stat() {
		t.Error("told otherwise the second time")
	}
	p.wantAlike(t, other, l)
}
