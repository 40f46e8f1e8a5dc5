package table_test

import (
	"bytes"
	"fmt"
	"strings"
	"testing"

	"spence/api"
	"spence/dev"
	"spence/log"
	"spence/table"
)

// laid is a device whose journal has an area and records, whatever they are.
func laid(t *testing.T, s api.Shape, area []byte, records ...[]byte) *dev.Device {
	t.Helper()
	d := device(t, s)
	want(t, "log.Format", log.Format(d, s), api.OK)
	j := journal(t, d, s)
	if len(area) > 0 {
		want(t, "Switch", j.Switch(area), api.OK)
	}
	for _, b := range records {
		want(t, "Append", j.Append(b), api.OK)
	}
	return d
}

// wantNone asks that Open tells an error, twice alike, and no store, and that nothing is done.
func wantNone(t *testing.T, what string, d *dev.Device, s api.Shape, e api.Errno) {
	t.Helper()
	stat, kept := d.Stat(), d.Kept()
	for range 2 {
		x, got := table.Open(d, s)
		want(t, what, got, e)
		if x != nil {
			t.Errorf("%s: a store is told beside an error", what)
		}
	}
	if d.Stat() != stat || !bytes.Equal(d.Kept(), kept) {
		t.Errorf("%s: something is done", what)
	}
}

// rows are so many of short keys, in order.
func rows(many int) []api.Row {
	var l []api.Row
	for i := range many {
		l = append(l, api.Row{Key: fmt.Sprintf("%06d", i)})
	}
	return l
}

// P6.1: Format lays what log.Format lays: no rows.
func TestFormat(t *testing.T) {
	for _, s := range []api.Shape{small, {Log: 1, Area: 1, Data: 1}, great} {
		d, other := device(t, s), device(t, s)
		want(t, "Format", table.Format(d, s), api.OK)
		want(t, "log.Format", log.Format(other, s), api.OK)
		if !bytes.Equal(d.Kept(), other.Kept()) || d.Stat() != other.Stat() {
			t.Error("other bytes are laid")
		}
		(&plain{s: s}).wantAlike(t, d, open(t, d, s))
	}
}

// P6.1: a Format takes all rows away.
func TestFormatAgain(t *testing.T) {
	d, x, p := formatted(t, small)
	l := []api.Change{puts("a", 1), puts("b", filled(1, 100)...)}
	want(t, "Commit", x.Commit(l...), p.commit(l...))
	p.wantAlike(t, d, x)
	want(t, "Format", table.Format(d, small), api.OK)
	(&plain{s: small}).wantAlike(t, d, open(t, d, small))
}

// P6.1: Format and Open tell log's errors.
func TestWrongDevices(t *testing.T) {
	var none dev.Device
	for _, d := range []*dev.Device{nil, &none} {
		want(t, "Format of no device", table.Format(d, small), api.ErrNil)
		want(t, "Format of no device", table.Format(d, api.Shape{}), api.ErrNil)
		wantNone(t, "Open of no device", d, small, api.ErrNil)
		wantNone(t, "Open of no device", d, api.Shape{}, api.ErrNil)
	}
	d, x, p := formatted(t, small)
	want(t, "Commit", x.Commit(puts("a", 1)), p.commit(puts("a", 1)))
	for _, s := range []api.Shape{{}, {Log: 2, Area: 3, Data: 3}, {Log: -1, Area: 3, Data: 2}, {Log: 2, Area: 0, Data: 2}, {Log: 1 << 62, Area: 1 << 62, Data: 1 << 62}} {
		want(t, "Format", table.Format(d, s), api.ErrArg)
		wantNone(t, "Open", d, s, api.ErrArg)
	}
	p.wantAlike(t, d, x)
	d.Crash()
	want(t, "Format", table.Format(d, small), api.ErrDown)
	wantNone(t, "Open of one that is down", d, small, api.ErrDown)
	wantNone(t, "Open of one that is down", d, api.Shape{}, api.ErrArg)
	d.Wake(0)
	p.wantAlike(t, d, open(t, d, small))
	for n := 1; n <= 2; n++ {
		d.Fuse(n)
		want(t, "Format that crashes", table.Format(d, small), api.ErrDown)
		d.Wake(0)
		p.wantAlike(t, d, open(t, d, small))
	}
}

// P6.1: where there is no journal there is no table.
func TestOpenNoJournal(t *testing.T) {
	wantNone(t, "no head", device(t, small), small, api.ErrShape)
	d, x, p := formatted(t, small)
	want(t, "Commit", x.Commit(puts("a", 1)), p.commit(puts("a", 1)))
	want(t, "Spoil", d.Spoil(1, 6), api.OK)
	wantNone(t, "no records", d, small, api.ErrShape)
	want(t, "Spoil", d.Spoil(1, 6), api.OK)
	p.wantAlike(t, d, open(t, d, small))
}

// P6.1: what a device has is its area's rows with its records' changes done.
func TestOpenRows(t *testing.T) {
	a, b, c := api.Row{Key: "a", Val: []byte{1}}, api.Row{Key: "b"}, api.Row{Key: "c", Val: []byte{3}}
	longest := api.Row{Key: strings.Repeat("z", 64), Val: filled(1, 2048)}
	for what, x := range map[string]struct {
		area    []byte
		records [][]byte
		rows    []api.Row
	}{
		"nothing":                   {},
		"no rows":                   {area: tableBytes()},
		"rows":                      {area: tableBytes(a, b, c), rows: []api.Row{a, b, c}},
		"the longest row":           {area: tableBytes(a, longest), rows: []api.Row{a, longest}},
		"keys one in another":       {area: tableBytes(a, api.Row{Key: "a\x00"}, api.Row{Key: "aa"}), rows: []api.Row{a, {Key: "a\x00"}, {Key: "aa"}}},
		"bytes above 127":           {area: tableBytes(a, api.Row{Key: "é"}, api.Row{Key: "\xff"}), rows: []api.Row{a, {Key: "é"}, {Key: "\xff"}}},
		"a record of no changes":    {area: tableBytes(a), records: [][]byte{changesBytes()}, rows: []api.Row{a}},
		"a record of changes":       {records: [][]byte{changesBytes(puts("c", 3), puts("a", 1))}, rows: []api.Row{a, c}},
		"the longest change":        {records: [][]byte{changesBytes(puts(longest.Key, longest.Val...))}, rows: []api.Row{longest}},
		"one key again":             {records: [][]byte{changesBytes(puts("a", 7, 7), puts("a", 1))}, rows: []api.Row{a}},
		"what goes":                 {area: tableBytes(a, b, c), records: [][]byte{changesBytes(goes("b"), goes("x"), goes("a"))}, rows: []api.Row{c}},
		"what goes and comes":       {area: tableBytes(a, b), records: [][]byte{changesBytes(goes("a"), puts("a", 1))}, rows: []api.Row{a, b}},
		"what comes and goes":       {area: tableBytes(b), records: [][]byte{changesBytes(puts("a", 1), goes("a"))}, rows: []api.Row{b}},
		"records in their order":    {area: tableBytes(b), records: [][]byte{changesBytes(puts("a", 9)), changesBytes(goes("a")), changesBytes(puts("a", 1))}, rows: []api.Row{a, b}},
		"all goes":                  {area: tableBytes(a, b), records: [][]byte{changesBytes(goes("a")), changesBytes(goes("b"))}},
		"a value of another length": {area: tableBytes(a), records: [][]byte{changesBytes(puts("a", longest.Val...))}, rows: []api.Row{{Key: "a", Val: longest.Val}}},
	} {
		d := laid(t, great, x.area, x.records...)
		p := &plain{s: great, rows: x.rows, area: x.area, records: x.records}
		got := open(t, d, great)
		if !p.has(got) {
			t.Errorf("%s: %s", what, told(got.Rows("")))
		}
		p.wantAlike(t, d, got)
	}
}

// P6.1: bytes of the area that are none of a table.
func TestOpenNoTable(t *testing.T) {
	a, b := api.Row{Key: "a", Val: []byte{1}}, api.Row{Key: "b", Val: []byte{2}}
	good := tableBytes(a, b)
	for what, area := range map[string][]byte{
		"one byte behind":            append(bytes.Clone(good), 0),
		"a row behind":               append(append(bytes.Clone(good), text([]byte("c"))...), 0),
		"more rows than there are":   append([]byte{3}, good[1:]...),
		"fewer rows than there are":  append([]byte{1}, good[1:]...),
		"no rows, but bytes":         {0, 0},
		"rows, but no bytes":         {1},
		"many rows, but no bytes":    number(4000),
		"too many rows":              number(4001),
		"very many rows":             number(1 << 40),
		"no number":                  {128, 0},
		"no number's end":            {128},
		"not in order":               tableBytes(b, a),
		"one key twice":              tableBytes(a, a),
		"one key twice, other rows":  tableBytes(a, api.Row{Key: "a", Val: []byte{2}}),
		"longer keys first":          tableBytes(api.Row{Key: "aa"}, a),
		"a key of no bytes":          tableBytes(api.Row{}),
		"a key of no bytes, and one": tableBytes(api.Row{}, a),
		"one, and a key of no bytes": tableBytes(a, api.Row{}),
		"a key that is too long":     tableBytes(api.Row{Key: strings.Repeat("z", 65)}),
		"a value that is too long":   tableBytes(api.Row{Key: "a", Val: filled(1, 2049)}),
		"a length in two ways":       {1, 129, 0, 'a', 0},
		"too many rows that are":     tableBytes(rows(4001)...),
		"a text's bytes alone":       []byte("area"),
	} {
		wantNone(t, what, laid(t, great, area), great, api.ErrShape)
		wantNone(t, what+", and a record", laid(t, great, area, changesBytes(goes("a"))), great, api.ErrShape)
	}
	for many := 1; many < len(good); many++ {
		wantNone(t, "cut", laid(t, great, good[:many]), great, api.ErrShape)
	}
}

// P6.1: records that are none of right changes.
func TestOpenNoChanges(t *testing.T) {
	good := changesBytes(puts("a", 1), goes("b"), puts("c", 3, 3))
	for what, b := range map[string][]byte{
		"nothing":                     {},
		"one byte behind":             append(bytes.Clone(good), 0),
		"more changes than there are": append([]byte{4}, good[1:]...),
		"fewer than there are":        append([]byte{2}, good[1:]...),
		"no changes, but bytes":       {0, 0},
		"changes, but no bytes":       {1},
		"very many, but no bytes":     number(1 << 40),
		"no number":                   {128, 0},
		"gone by a 2":                 {1, 2, 1, 'a'},
		"gone by a 2, and a value":    {1, 2, 1, 'a', 0},
		"gone, with a value":          {1, 1, 1, 'a', 0},
		"there, without a value":      {1, 0, 1, 'a'},
		"a key of no bytes":           changesBytes(puts("", 1)),
		"a key of no bytes that goes": changesBytes(goes("")),
		"a key that is too long":      changesBytes(puts(strings.Repeat("z", 65))),
		"one too long that goes":      changesBytes(goes(strings.Repeat("z", 65))),
		"a value that is too long":    changesBytes(puts("a", filled(1, 2049)...)),
		"wrong behind right":          changesBytes(puts("a", 1), puts("")),
		"a flag in two ways":          {1, 128, 0, 1, 'a', 0},
	} {
		wantNone(t, what, laid(t, great, nil, b), great, api.ErrShape)
		wantNone(t, what+", amid others", laid(t, great, tableBytes(api.Row{Key: "a"}), good, b, good), great, api.ErrShape)
	}
	for many := range len(good) {
		wantNone(t, "cut", laid(t, great, nil, good[:many]), great, api.ErrShape)
	}
}

// filling is a row whose table has so many bytes, if it is the only one.
func filling(t *testing.T, many int) api.Row {
	t.Helper()
	for n := range 2049 {
		r := api.Row{Key: "f", Val: filled(2, n)}
		if len(tableBytes(r)) == many {
			return r
		}
	}
	t.Fatalf("no row of %d bytes", many)
	return api.Row{}
}

// P6.1: rows that are longer than the area has room for; what is no table, no changes, is told ahead of it.
func TestOpenTooLong(t *testing.T) {
	s := api.Shape{Log: 20, Area: 3, Data: 1}
	just := filling(t, 192)
	d := laid(t, s, tableBytes(just), changesBytes(puts("f", 1)), changesBytes(puts("f", just.Val...)))
	(&plain{s: s, rows: []api.Row{just}}).wantRows(t, open(t, d, s))
	more := append(bytes.Clone(just.Val), 1)
	wantNone(t, "a byte more", laid(t, s, nil, changesBytes(puts("f", more...))), s, api.ErrFull)
	wantNone(t, "a row more", laid(t, s, tableBytes(just), changesBytes(puts("g"))), s, api.ErrFull)
	wantNone(t, "a byte more, and no changes", laid(t, s, nil, changesBytes(puts("f", more...)), []byte{9}), s, api.ErrShape)
	// Only what the device has at the end is held against the room.
	d = laid(t, s, nil, changesBytes(puts("f", more...)), changesBytes(puts("f", just.Val...)))
	(&plain{s: s, rows: []api.Row{just}}).wantRows(t, open(t, d, s))
	d = laid(t, s, nil, changesBytes(puts("f", more...), goes("f")))
	(&plain{s: s}).wantRows(t, open(t, d, s))
}

// P6.1: more rows than may be.
func TestOpenTooMany(t *testing.T) {
	area := tableBytes(rows(4000)...)
	d := laid(t, great, area)
	(&plain{s: great, rows: rows(4000)}).wantRows(t, open(t, d, great))
	wantNone(t, "a row more", laid(t, great, area, changesBytes(puts("x"))), great, api.ErrFull)
	wantNone(t, "a row more, and no changes", laid(t, great, area, changesBytes(puts("x")), []byte{9}), great, api.ErrShape)
	d = laid(t, great, area, changesBytes(puts("x")), changesBytes(goes("000000")))
	l := append(rows(4000)[1:], api.Row{Key: "x"})
	(&plain{s: great, rows: l}).wantRows(t, open(t, d, great))
}

// P6.1: a record may be of more changes than a Commit has.
func TestOpenManyChanges(t *testing.T) {
	var l []api.Change
	for _, r := range rows(500) {
		l = append(l, puts(r.Key))
	}
	d := laid(t, great, nil, changesBytes(l...))
	(&plain{s: great, rows: rows(500)}).wantRows(t, open(t, d, great))
}

// P6.1: a store that is opened goes on.
func TestOpenGoesOn(t *testing.T) {
	d, x, p := formatted(t, small)
	for i := range 60 {
		l := []api.Change{puts(string(rune('a'+i%7)), filled(i, i%19)...), goes(string(rune('a' + i%5)))}
		want(t, "Commit", x.Commit(l...), p.commit(l...))
		p.wantAlike(t, d, x)
		x = open(t, d, small)
	}
}
