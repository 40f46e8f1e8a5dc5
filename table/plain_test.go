package table_test

import (
	"bytes"
	"fmt"
	"math/rand"
	"slices"
	"strings"
	"testing"

	"spence/api"
	"spence/dev"
	"spence/log"
	"spence/table"
)

// small is a shape of two sectors of a log, and areas of three.
var small = api.Shape{Log: 2, Area: 3, Data: 2}

// great is the shape of the longest areas, with a log of some sectors.
var great = api.Shape{Log: 100, Area: 4000, Data: 1}

// want asks that a call told this error.
func want(t *testing.T, what string, got, e api.Errno) {
	t.Helper()
	if got != e {
		t.Errorf("%s: %d, not %d", what, got, e)
	}
}

// filled is so many bytes, none of them nought, and no two of other seeds alike.
func filled(seed, many int) []byte {
	b := make([]byte, many)
	for i := range b {
		b[i] = byte(1 + (seed*31+i*7+i/255)%255)
	}
	return b
}

// puts is the change by which a key has a value.
func puts(key string, val ...byte) api.Change {
	return api.Change{Key: key, Val: val}
}

// goes is the change by which a key has none.
func goes(key string) api.Change {
	return api.Change{Key: key, Gone: true}
}

// device is a device just as large as a shape, with no byte of nought.
func device(t *testing.T, s api.Shape) *dev.Device {
	t.Helper()
	d, e := dev.New(log.Sectors(s))
	if e != api.OK {
		t.Fatalf("New: %d", e)
	}
	for at := range log.Sectors(s) {
		want(t, "Write", d.Write(at, filled(at, 64)), api.OK)
	}
	want(t, "Flush", d.Flush(), api.OK)
	return d
}

// journal is the device's journal, which must be there.
func journal(t *testing.T, d *dev.Device, s api.Shape) *log.Journal {
	t.Helper()
	j, e := log.Open(d, s)
	if j == nil || e != api.OK {
		t.Fatalf("the journal: %d", e)
	}
	return j
}

// open is the device's store of rows, which must be there.
func open(t *testing.T, d *dev.Device, s api.Shape) *table.Table {
	t.Helper()
	x, e := table.Open(d, s)
	if x == nil || e != api.OK {
		t.Fatalf("Open: %d", e)
	}
	return x
}

// formatted is a device, an empty store of rows on it, and what it is after the chapter's words.
func formatted(t *testing.T, s api.Shape) (*dev.Device, *table.Table, *plain) {
	t.Helper()
	d := device(t, s)
	want(t, "Format", table.Format(d, s), api.OK)
	return d, open(t, d, s), &plain{s: s}
}

// number is a number's bytes.
func number(n int) []byte {
	var b []byte
	for ; n >= 128; n >>= 7 {
		b = append(b, byte(n&127|128))
	}
	return append(b, byte(n))
}

// text is a text's bytes.
func text(b []byte) []byte {
	return append(number(len(b)), b...)
}

// tableBytes are those of a table.
func tableBytes(l ...api.Row) []byte {
	b := number(len(l))
	for _, x := range l {
		b = append(b, text([]byte(x.Key))...)
		b = append(b, text(x.Val)...)
	}
	return b
}

// changesBytes are those of changes.
func changesBytes(l ...api.Change) []byte {
	b := number(len(l))
	for _, x := range l {
		if x.Gone {
			b = append(b, 1)
		} else {
			b = append(b, 0)
		}
		b = append(b, text([]byte(x.Key))...)
		if !x.Gone {
			b = append(b, text(x.Val)...)
		}
	}
	return b
}

// plain is a table, and its journal's area and records, after the chapter's words, one by one.
type plain struct {
	s       api.Shape
	rows    []api.Row
	area    []byte
	records [][]byte
}

// with is the table behind a change.
func with(rows []api.Row, x api.Change) []api.Row {
	var l []api.Row
	for _, r := range rows {
		if r.Key != x.Key {
			l = append(l, r)
		}
	}
	if !x.Gone {
		l = append(l, api.Row{Key: x.Key, Val: x.Val})
	}
	slices.SortFunc(l, func(a, b api.Row) int { return strings.Compare(a.Key, b.Key) })
	return l
}

// room is how many bytes more the log takes.
func (p *plain) room() int {
	many := 64 * p.s.Log
	for _, b := range p.records {
		many -= len(text(b))
	}
	return many
}

// isRight says whether a change is.
func isRight(x api.Change) bool {
	if x.Gone && len(x.Val) > 0 {
		return false
	}
	return len(x.Key) >= 1 && len(x.Key) <= 64 && len(x.Val) <= 2048
}

// commit does what a Commit does, and says what it tells.
func (p *plain) commit(l ...api.Change) api.Errno {
	if len(l) == 0 {
		return api.OK
	}
	if len(l) > 400 {
		return api.ErrLong
	}
	rows := p.rows
	for _, x := range l {
		if !isRight(x) {
			return api.ErrArg
		}
		rows = with(rows, x)
	}
	area, record := tableBytes(rows...), changesBytes(l...)
	if len(rows) > 4000 || len(area) > 64*p.s.Area {
		return api.ErrFull
	}
	p.rows = rows
	if len(text(record)) <= p.room() {
		p.records = append(slices.Clip(p.records), record)
		return api.OK
	}
	p.area, p.records = area, nil
	return api.OK
}

// clone is p once more.
func (p *plain) clone() *plain {
	q := *p
	return &q
}

// sameRow says whether two rows are one.
func sameRow(a, b api.Row) bool {
	return a.Key == b.Key && bytes.Equal(a.Val, b.Val)
}

// has says whether a store has just the rows.
func (p *plain) has(x *table.Table) bool {
	rows, many := x.Size()
	return slices.EqualFunc(x.Rows(""), p.rows, sameRow) && rows == len(p.rows) && many == len(tableBytes(p.rows...))
}

// wantRows asks that a store has just the rows, by each of its calls.
func (p *plain) wantRows(t *testing.T, x *table.Table) {
	t.Helper()
	if !p.has(x) {
		t.Errorf("it has other rows: %s, not %s", told(x.Rows("")), told(p.rows))
	}
	for _, r := range p.rows {
		val, e := x.Get(r.Key)
		if e != api.OK || !bytes.Equal(val, r.Val) {
			t.Errorf("Get(%q): %d, %d", r.Key, val, e)
		}
	}
	for _, key := range []string{"", "no such key"} {
		if val, e := x.Get(key); len(val) != 0 || e != api.ErrNone {
			t.Errorf("Get(%q): %d, %d", key, val, e)
		}
	}
}

// wantAlike asks that a store has just the rows, and so one that is opened again, and that the journal has the area and the records.
func (p *plain) wantAlike(t *testing.T, d *dev.Device, x *table.Table) {
	t.Helper()
	p.wantRows(t, x)
	p.wantRows(t, open(t, d, p.s))
	j := journal(t, d, p.s)
	area, _ := j.Area()
	if !bytes.Equal(area, p.area) {
		t.Errorf("the area has other bytes: %d, not %d", area, p.area)
	}
	if l, _ := j.Records(); !slices.EqualFunc(l, p.records, bytes.Equal) {
		t.Errorf("the log has other records: %d, not %d", l, p.records)
	}
	if d.Stat().Pending != 0 {
		t.Error("something is pending")
	}
}

// told is rows to be read.
func told(l []api.Row) string {
	s := fmt.Sprintf("%d rows", len(l))
	for _, r := range l[:min(len(l), 9)] {
		s += fmt.Sprintf(" %q %d%v", r.Key, len(r.Val), r.Val[:min(len(r.Val), 4)])
	}
	return s
}

// some are changes by chance, most of them right, of few keys.
func some(r *rand.Rand) []api.Change {
	var l []api.Change
	for range r.Intn(5) {
		key := strings.Repeat("abc"[r.Intn(3):][:1], 1+r.Intn(4))
		switch r.Intn(40) {
		case 0:
			l = append(l, puts(""))
		case 1:
			l = append(l, api.Change{Key: key, Val: []byte{1}, Gone: true})
		case 2:
			l = append(l, puts(strings.Repeat("k", 64), filled(r.Intn(9), 30)...))
		case 3, 4, 5, 6, 7, 8, 9, 10, 11, 12:
			l = append(l, goes(key))
		default:
			l = append(l, puts(key, filled(r.Intn(9), r.Intn(20))...))
		}
	}
	return l
}

// journals says whether a journal has the area and the records.
func (p *plain) journals(j *log.Journal) bool {
	area, _ := j.Area()
	l, _ := j.Records()
	return bytes.Equal(area, p.area) && slices.EqualFunc(l, p.records, bytes.Equal)
}
