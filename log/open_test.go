package log_test

import (
	"bytes"
	"slices"
	"testing"

	"spence/api"
	"spence/log"
)

// wide is a shape whose regions have bytes enough for numbers of more than one byte.
var wide = api.Shape{Log: 5, Area: 4, Data: 1}

// P5.2: what a head says counts: which area, how many bytes of it and of the log, the round.
func TestOpenHeads(t *testing.T) {
	d := used(t, log.Sectors(wide))
	text := slices.Concat(record(row(1, 3)), record(nil), record(row(2, 200)), record(row(3, 109)))
	for i := range 5 {
		put(t, d, 1+i, append(bytes.Clone(text), make([]byte, 10)...)[64*i:min(64*(i+1), len(text))]...)
	}
	all := d.Kept()
	for _, inLog := range []int{0, 4, 5, 207, 317} {
		for _, inArea := range []int{0, 1, 64, 127, 128, 255, 256} {
			for area := range 2 {
				for _, round := range []int{1, 2, 127, 128, 1 << 20, api.MaxNum - 1, api.MaxNum} {
					put(t, d, 0, headBytes(t, area, inArea, inLog, round)...)
					p := &plain{s: wide, all: all, area: area, inArea: inArea, log: inLog, round: round}
					if j := open(t, d, wide); !p.alike(j) {
						t.Errorf("head %d %d %d %d: %s", area, inArea, inLog, round, told(j))
					}
				}
			}
		}
	}
	put(t, d, 0, headBytes(t, 0, 0, 317, 1)...)
	l, e := open(t, d, wide).Records()
	if !sameLists(l, [][]byte{row(1, 3), nil, row(2, 200), row(3, 109)}) || e != api.OK {
		t.Errorf("Records: %v, %d", l, e)
	}
}

// P5.2: an area's bytes, and a log's, that fill all their sectors, and those that are more.
func TestOpenLimits(t *testing.T) {
	d := device(t, log.Sectors(wide))
	for _, c := range []struct {
		inArea, inLog int
		ok            bool
	}{
		{256, 0, true}, {257, 0, false}, {258, 0, false}, {1 << 30, 0, false}, {api.MaxNum, 0, false},
		// The log is noughts: each of its bytes is an empty record.
		{0, 320, true}, {0, 321, false}, {0, 384, false}, {0, 1 << 30, false}, {0, api.MaxNum, false},
		{256, 320, true}, {257, 320, false}, {256, 321, false},
	} {
		put(t, d, 0, headBytes(t, 1, c.inArea, c.inLog, 1)...)
		if c.ok {
			p := &plain{s: wide, all: d.Kept(), area: 1, inArea: c.inArea, log: c.inLog, round: 1}
			if j := open(t, d, wide); !p.alike(j) {
				t.Errorf("%+v: %s", c, told(j))
			}
		} else {
			wantShape(t, d.Kept(), "bytes that are too many")
		}
	}
}

// wantShape asks that a device with these bytes, of the wide shape, has no journal, and is as it was.
func wantShape(t *testing.T, all []byte, what string) {
	t.Helper()
	d := device(t, log.Sectors(wide))
	for at := range log.Sectors(wide) {
		put(t, d, at, all[64*at:][:64]...)
	}
	stat := d.Stat()
	j, e := log.Open(d, wide)
	if j != nil || e != api.ErrShape {
		t.Errorf("%s: Open: %v, %d", what, j, e)
	}
	if !bytes.Equal(d.Kept(), all) || d.Stat() != stat {
		t.Errorf("%s: something is done beside an error", what)
	}
}

// P5.2: sectors that are no heads.
func TestOpenNoHead(t *testing.T) {
	rest := make([]byte, 64*(log.Sectors(wide)-1))
	for what, b := range map[string][]byte{
		"noughts":                        nil,
		"round 0":                        {0, 5, 0, 0},
		"area 2":                         {2, 0, 0, 1},
		"area 127":                       {127, 0, 0, 1},
		"area of two bytes":              {129, 0, 0, 0, 1},
		"a number in one way of two":     {0, 0x80, 0, 0, 1},
		"an area in one way of two":      {0x80, 0, 0, 0, 1},
		"a log in one way of two":        {0, 0, 0x85, 0, 1},
		"a round in one way of two":      {0, 0, 0, 0x81, 0},
		"a round above a number":         {0, 0, 0, 129, 128, 128, 128, 128, 32},
		"a round of seven bytes":         {0, 0, 0, 128, 128, 128, 128, 128, 128, 1},
		"an area's bytes above a number": {0, 129, 128, 128, 128, 128, 32, 0, 1},
		"a fifth number":                 {0, 0, 0, 1, 1},
		"a byte behind noughts":          append([]byte{0, 0, 0, 1}, append(make([]byte, 59), 1)...),
		"a byte amid noughts":            {0, 0, 0, 1, 0, 0, 128},
		"no end":                         bytes.Repeat([]byte{255}, 64),
		"ones":                           bytes.Repeat([]byte{1}, 64),
	} {
		wantShape(t, append(append(bytes.Clone(b), make([]byte, 64-len(b))...), rest...), what)
	}
	d := device(t, log.Sectors(wide))
	if j, e := log.Open(d, wide); j != nil || e != api.ErrShape {
		t.Errorf("of a device that is just there: %v, %d", j, e)
	}
}

// P5.2: a head of which a bit is turned is another one, or none; it is never opened as it was.
func TestOpenSpoilt(t *testing.T) {
	d := device(t, log.Sectors(wide))
	want(t, "Format", log.Format(d, wide), api.OK)
	for bit := range 512 {
		want(t, "Spoil", d.Spoil(0, bit), api.OK)
		b, _ := d.Read(0)
		j, e := log.Open(d, wide)
		// The numbers stand in four bytes, none of which is 128 or more.
		heads := bit < 32 && b[0] < 2 && b[1] < 128 && b[2] < 128 && b[3] > 0 && b[3] < 128
		switch {
		case !heads && (j != nil || e != api.ErrShape):
			t.Errorf("bit %d: %v, %d", bit, j, e)
		case heads:
			p := &plain{s: wide, all: d.Kept(), area: int(b[0]), inArea: int(b[1]), log: int(b[2]), round: int(b[3])}
			if !p.alike(open(t, d, wide)) {
				t.Errorf("bit %d: another head", bit)
			}
		}
		want(t, "Spoil", d.Spoil(0, bit), api.OK)
	}
}

// P5.2: what counts of the log must be records, to its end.
func TestOpenNoRecords(t *testing.T) {
	for what, c := range map[string]struct {
		log   []byte
		inLog int
		ok    bool
	}{
		"one":                           {[]byte{2, 5, 6, 7}, 3, true},
		"two":                           {[]byte{2, 5, 6, 1, 7}, 5, true},
		"a record's begin":              {[]byte{2, 5, 6}, 2, false},
		"a record's length alone":       {[]byte{2, 5, 6}, 1, false},
		"a record and a begin":          {[]byte{1, 5, 9, 6}, 3, false},
		"a record and an empty one":     {[]byte{1, 5, 0, 6}, 3, true},
		"half a length":                 {[]byte{128, 1}, 1, false},
		"a length in one way of two":    {[]byte{129, 0, 5}, 3, false},
		"a length above a number":       {[]byte{129, 128, 128, 128, 128, 32}, 6, false},
		"a length above a text":         {[]byte{129, 128, 64, 1, 1, 1}, 6, false},
		"a length above the log":        {[]byte{200, 20, 1, 1, 1}, 5, false},
		"a length of just what counts":  {[]byte{190, 2}, 320, true},
		"a length of one byte too many": {[]byte{191, 2}, 320, false},
		"a length of one byte too few":  {[]byte{189, 2}, 320, true},
		"nothing that counts":           {[]byte{128, 128}, 0, true},
		"a record ahead of what counts": {[]byte{0, 0, 255}, 2, true},
		"a record of what does not":     {[]byte{0, 0, 255}, 3, false},
	} {
		all := make([]byte, 64*log.Sectors(wide))
		copy(all, headBytes(t, 0, 0, c.inLog, 7))
		copy(all[64:], c.log)
		if !c.ok {
			wantShape(t, all, what)
			continue
		}
		d := device(t, log.Sectors(wide))
		put(t, d, 0, all[:64]...)
		put(t, d, 1, all[64:128]...)
		p := &plain{s: wide, all: all, log: c.inLog, round: 7}
		if !p.alike(open(t, d, wide)) {
			t.Errorf("%s: other records", what)
		}
	}
}

// P5.2: what is seen counts, though it is not kept yet.
func TestOpenSeesPending(t *testing.T) {
	d := device(t, log.Sectors(wide))
	want(t, "Format", log.Format(d, wide), api.OK)
	for at, b := range [][]byte{headBytes(t, 1, 2, 4, 9), {3, 7, 8, 9}} {
		want(t, "Write", d.Write(at, b), api.OK)
	}
	want(t, "Write", d.Write(10, []byte{5, 6}), api.OK)
	j := open(t, d, wide)
	if got := told(j); got != "Area 2[5 6], 0; Records [3[7 8 9]], 0; Room 316; Round 9" {
		t.Error(got)
	}
	d.Crash()
	d.Wake(0)
	if got := told(open(t, d, wide)); got != "Area 0[], 0; Records [], 0; Room 320; Round 1" {
		t.Error(got)
	}
}

// P5.2, P5.3: a journal that is opened goes on where another one left off.
func TestOpenGoesOn(t *testing.T) {
	d, j, p := formatted(t, wide)
	for i := range 20 {
		if b := row(i, 40+i); i%7 == 6 {
			want(t, "Switch", j.Switch(b), p.turn(t, b))
		} else {
			want(t, "Append", j.Append(b), p.append(t, b))
		}
		j = open(t, d, wide)
		p.wantAlike(t, d, j)
	}
}

// P5.3: there is no round above MaxNum; nothing comes of what would need it.
func TestLastRound(t *testing.T) {
	d, j, p := formatted(t, wide)
	want(t, "Switch", j.Switch(row(1, 70)), p.turn(t, row(1, 70)))
	want(t, "Append", j.Append(row(2, 70)), p.append(t, row(2, 70)))
	p.round = api.MaxNum - 2
	p.tell(t)
	put(t, d, 0, p.all[:64]...)
	j = open(t, d, wide)
	want(t, "Append", j.Append(row(3, 7)), p.append(t, row(3, 7)))
	want(t, "Switch", j.Switch(row(4, 7)), p.turn(t, row(4, 7)))
	if j.Round() != api.MaxNum {
		t.Errorf("Round: %d", j.Round())
	}
	deeds := d.Stat().Deeds
	for range 2 {
		for _, many := range []int{0, 1, 320, 1 << 20} {
			want(t, "Append", j.Append(row(5, many)), api.ErrLong)
			want(t, "Switch", j.Switch(row(5, many)), api.ErrLong)
		}
		if d.Stat().Deeds != deeds {
			t.Error("something is written beside an error")
		}
		p.wantAlike(t, d, j)
		j = open(t, d, wide)
	}
	// It is told ahead of what the device would tell, and that is not asked.
	d.Crash()
	want(t, "Append", j.Append(nil), api.ErrLong)
	want(t, "Switch", j.Switch(nil), api.ErrLong)
	d.Wake(0)
	p.wantAlike(t, d, j)
}
