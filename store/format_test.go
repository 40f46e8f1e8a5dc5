package store_test

import (
	"bytes"
	"slices"
	"testing"

	"spence/api"
	"spence/dev"
	"spence/store"
	"spence/table"
)

// none is an empty quota, most the greatest one.
var (
	none api.Quota
	most = api.Quota{Bytes: 150 * 4096, Objects: 150, Roots: 100, Notes: 400}
)

// P16.1: a store of quotas has just their rows, put at once; opened it has users who have nothing.
func TestFormat(t *testing.T) {
	for _, quotas := range [][]api.Quota{
		{none}, {some}, {some, none}, {none, some, {Bytes: 300, Objects: 2, Roots: 100, Notes: 1}},
		{{Bytes: 128, Objects: 1}, {Bytes: 127}, {Roots: 1}, {Notes: 1}, none, some, none, {Objects: 2}},
		{{Bytes: 500000}}, {{Objects: 100}}, {{Roots: 100}}, {{Notes: 110}},
		slices.Repeat([]api.Quota{{Bytes: 4096, Objects: 3, Roots: 5}}, 8),
	} {
		s := fitting(3, quotas...)
		d, other := device(t, s), device(t, s)
		want(t, "Format", store.Format(d, s, quotas...), api.OK)
		p := plainOf(s, quotas...)
		rows := p.rows()
		want(t, "table.Format", table.Format(other, s), api.OK)
		x, _ := table.Open(other, s)
		want(t, "Commit", x.Commit(changed(nil, rows)...), api.OK)
		if !bytes.Equal(d.Kept(), other.Kept()) || d.Stat() != other.Stat() {
			t.Errorf("%v: other bytes are laid", quotas)
		}
		if got := rowsOn(t, d, s); !sameRows(got, rows) || len(got) != len(quotas) {
			t.Errorf("%v: rows: %s", quotas, told(got))
		}
		wantTold(t, "formatted", open(t, d, s), p, true)
	}
}

// P16.1: the rows of quotas, byte by byte.
func TestFormatRows(t *testing.T) {
	quotas := []api.Quota{{Bytes: 1000, Objects: 2, Roots: 3, Notes: 4}, {Bytes: 127, Objects: 30, Roots: 100, Notes: 0}}
	s := fitting(3, quotas...)
	d := device(t, s)
	want(t, "Format", store.Format(d, s, quotas...), api.OK)
	w := []api.Row{{Key: "q1", Val: []byte{232, 7, 2, 3, 4}}, {Key: "q2", Val: []byte{127, 30, 100, 0}}}
	if got := rowsOn(t, d, s); !sameRows(got, w) {
		t.Errorf("rows: %s", told(got))
	}
}

// P16.1: a log without room for the quotas' record is no hindrance: the table switches.
func TestFormatSmallLog(t *testing.T) {
	quotas := slices.Repeat([]api.Quota{some}, 8)
	s := fitting(1, quotas...)
	d := device(t, s)
	want(t, "Format", store.Format(d, s, quotas...), api.OK)
	wantTold(t, "formatted", open(t, d, s), plainOf(s, quotas...), true)
}

// P16.1: a Format takes away all that there was.
func TestFormatAgain(t *testing.T) {
	b := formatted(t, some, some)
	p := b.must(t, "add", adds(1, "a", file("x")))[0]
	b.must(t, "root and note", roots(1, "r", p), notes(2, "k", 1))
	want(t, "Format", store.Format(b.d, b.shape, some), api.OK)
	wantTold(t, "formatted again", open(t, b.d, b.shape), plainOf(b.shape, some), true)
}

// P16.1: Format tells view.Fits's errors, ahead of all others, and does nothing then.
func TestFormatFits(t *testing.T) {
	s := fitting(3, some, some)
	b := laid(t, plainOf(s, some, some))
	kept, stat := b.d.Kept(), b.d.Stat()
	less, narrow := s, s
	less.Area--
	narrow.Data--
	for _, d := range []*dev.Device{b.d, nil, {}} {
		for what, c := range map[string]struct {
			s      api.Shape
			quotas []api.Quota
			e      api.Errno
		}{
			"no quotas":          {s, nil, api.ErrArg},
			"nine quotas":        {s, make([]api.Quota, 9), api.ErrArg},
			"a quota too great":  {s, []api.Quota{some, {Objects: 151}}, api.ErrArg},
			"a quota below 0":    {s, []api.Quota{{Notes: -1}}, api.ErrArg},
			"no shape":           {api.Shape{}, []api.Quota{none}, api.ErrArg},
			"no log":             {api.Shape{Area: s.Area, Data: s.Data}, []api.Quota{none}, api.ErrArg},
			"too many sectors":   {api.Shape{Log: 1, Area: 4000, Data: 191}, []api.Quota{none}, api.ErrArg},
			"the area too small": {less, []api.Quota{some, some}, api.ErrConfig},
			"the data too small": {narrow, []api.Quota{some, some}, api.ErrConfig},
			"one user more":      {s, []api.Quota{some, some, some}, api.ErrConfig},
			"the most":           {api.Shape{Log: 1, Area: 4000, Data: 190}, []api.Quota{most}, api.ErrConfig},
		} {
			want(t, what, store.Format(d, c.s, c.quotas...), c.e)
		}
	}
	if b.d.Stat() != stat || !bytes.Equal(b.d.Kept(), kept) {
		t.Error("something is done")
	}
	b.wantAlike(t, "behind what is refused")
}

// P16.1: Format tells table.Format's errors.
func TestFormatDevices(t *testing.T) {
	s := fitting(3, some)
	want(t, "no device", store.Format(nil, s, some), api.ErrNil)
	want(t, "a zero device", store.Format(&dev.Device{}, s, some), api.ErrNil)
	d := device(t, s)
	more := s
	more.Data++
	kept, stat := d.Kept(), d.Stat()
	want(t, "a device that is too small", store.Format(d, more, some), api.ErrArg)
	if d.Stat() != stat || !bytes.Equal(d.Kept(), kept) {
		t.Error("something is done")
	}
	d.Crash()
	want(t, "a device that is down", store.Format(d, s, some), api.ErrDown)
}

// P16.1: a Format that crashes tells so; what was there is there, or nothing, or no rows, or the new store.
func TestFormatCrashes(t *testing.T) {
	told := map[api.Errno]int{}
	for keep := range 8 {
		for fuse := 1; ; fuse++ {
			b := formatted(t, some, some)
			b.must(t, "note", notes(1, "k", 1))
			b.d.Fuse(fuse)
			e := store.Format(b.d, b.shape, none)
			if e == api.OK {
				break
			}
			want(t, "Format that crashes", e, api.ErrDown)
			want(t, "Wake", b.d.Wake(keep), api.OK)
			x, e := store.Open(b.d, b.shape)
			told[e]++
			if e == api.OK && len(x.Quotas()) == 2 {
				told[-1]++
				wantTold(t, "as it was", x, b.p, true)
			} else if e == api.OK {
				wantTold(t, "formatted", x, plainOf(b.shape, none), true)
			}
			if fuse > 20 {
				t.Fatal("it crashes at each fuse")
			}
		}
	}
	if told[api.OK] == told[-1] || told[-1] == 0 || told[api.ErrNone] == 0 || len(told) != 3 {
		t.Errorf("told: %v", told)
	}
}

// R3: no quotas are changed, or kept.
func TestFormatChangesNothing(t *testing.T) {
	quotas := []api.Quota{some, none, {Objects: 1}}
	s := fitting(3, quotas...)
	d := device(t, s)
	want(t, "Format", store.Format(d, s, quotas[:2]...), api.OK)
	if !slices.Equal(quotas, []api.Quota{some, none, {Objects: 1}}) {
		t.Errorf("quotas are changed: %v", quotas)
	}
}
