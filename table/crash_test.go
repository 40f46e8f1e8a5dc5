package table_test

import (
	"bytes"
	"math/rand"
	"testing"

	"spence/api"
	"spence/dev"
	"spence/table"
)

// wantRefused asks that a store that is down tells so of a Commit, does nothing, and tells its rows as they were.
func (p *plain) wantRefused(t *testing.T, d *dev.Device, x *table.Table) {
	t.Helper()
	stat, kept := d.Stat(), d.Kept()
	for _, l := range [][]api.Change{nil, {puts("a", 9)}, {goes("a")}, {puts("")}, make([]api.Change, 401), {puts("a", filled(1, 2000)...)}} {
		want(t, "Commit of one that is down", x.Commit(l...), api.ErrDown)
	}
	p.wantRows(t, x)
	if d.Stat() != stat || !bytes.Equal(d.Kept(), kept) {
		t.Error("something is done by one that is down")
	}
}

// P6.4, R5: of no store, and of one that Open did not tell.
func TestNoStore(t *testing.T) {
	d, x, p := formatted(t, small)
	commit(t, "Commit", x, p, api.OK, puts("a", 1))
	stat := d.Stat()
	copied := *x
	for _, none := range []*table.Table{nil, {}, new(table.Table), &copied} {
		for _, l := range [][]api.Change{nil, {puts("a", 9)}, {puts("")}, make([]api.Change, 401), {puts("a", filled(1, 2000)...)}} {
			want(t, "Commit", none.Commit(l...), api.ErrNil)
		}
		for _, key := range []string{"", "a", "b"} {
			if val, e := none.Get(key); val != nil || e != api.ErrNil {
				t.Errorf("Get: %d, %d", val, e)
			}
			if l := none.Rows(key); len(l) != 0 {
				t.Errorf("Rows: %s", told(l))
			}
		}
		if rows, many := none.Size(); rows != 0 || many != 0 {
			t.Errorf("Size: %d, %d", rows, many)
		}
	}
	if d.Stat() != stat {
		t.Error("something is done")
	}
	p.wantAlike(t, d, x)
}

// P6.4: a device's error takes the store down, and it stays so though the device is woken; one that is opened then is up.
func TestDown(t *testing.T) {
	d, x, p := formatted(t, small)
	commit(t, "Commit", x, p, api.OK, puts("a", 1), puts("b", 2))
	d.Crash()
	p.wantRows(t, x)
	// The device told nothing to the store yet: what it is asked that needs no device is as it was.
	want(t, "Commit of nothing", x.Commit(), api.OK)
	want(t, "a wrong Commit", x.Commit(puts("")), api.ErrArg)
	want(t, "a Commit without room", x.Commit(puts("c", filled(1, 300)...)), api.ErrFull)
	want(t, "Commit", x.Commit(puts("a", 3)), api.ErrDown)
	p.wantRefused(t, d, x)
	want(t, "Wake", d.Wake(0), api.OK)
	p.wantRefused(t, d, x)
	y := open(t, d, small)
	p.wantAlike(t, d, y)
	commit(t, "Commit", y, p.clone(), api.OK, puts("z", 1))
	p.wantRefused(t, d, x)
}

// P6.4: a store is up as long as it is not told an error of its device; a refused Commit does not take it down.
func TestNotDown(t *testing.T) {
	d, x, p := formatted(t, small)
	commit(t, "Commit", x, p, api.OK, puts("a", 1))
	d.Crash()
	d.Wake(0)
	commit(t, "Commit", x, p, api.OK, puts("b", 1))
	commit(t, "a wrong Commit", x, p, api.ErrArg, puts(""))
	commit(t, "a Commit without room", x, p, api.ErrFull, puts("c", filled(1, 300)...))
	commit(t, "too many changes", x, p, api.ErrLong, make([]api.Change, 401)...)
	commit(t, "Commit", x, p, api.OK, goes("a"))
	p.wantAlike(t, d, x)
}

// crashed does a Commit that crashes at a deed, and says whether it told OK; what is pending is kept by keep. The store is what it was, or, behind an OK, what it becomes, and the device likewise, or, behind an error, one of both.
func crashed(t *testing.T, ahead *plain, row [][]api.Change, l []api.Change, fuse, keep int) bool {
	t.Helper()
	d, x, _ := formatted(t, ahead.s)
	for _, c := range row {
		want(t, "Commit", x.Commit(c...), api.OK)
	}
	behind := ahead.clone()
	want(t, "Commit, after the chapter", behind.commit(l...), api.OK)
	d.Fuse(fuse)
	e := x.Commit(l...)
	if e == api.OK {
		behind.wantRows(t, x)
		d.Crash()
		want(t, "Wake", d.Wake(keep), api.OK)
		behind.wantAlike(t, d, open(t, d, ahead.s))
		return true
	}
	want(t, "Commit that crashes", e, api.ErrDown)
	ahead.wantRefused(t, d, x)
	want(t, "Wake", d.Wake(keep), api.OK)
	ahead.wantRefused(t, d, x)
	switch y := open(t, d, ahead.s); {
	case ahead.has(y):
		ahead.wantAlike(t, d, y)
	case behind.has(y):
		behind.wantAlike(t, d, y)
	default:
		t.Errorf("crashed at %d, keep %b: %s", fuse, keep, told(y.Rows("")))
	}
	return false
}

// P6.5: wherever a Commit crashes, and whatever is kept, it is done whole, or not at all; an append, a switch, and back.
func TestCrashedAnywhere(t *testing.T) {
	l := []api.Change{goes("a"), puts("c", filled(3, 60)...), puts("b", 7)}
	for _, row := range [][][]api.Change{
		nil,
		{{puts("a", 1), puts("b", 2)}},
		{{puts("a", 1), puts("b", 2)}, {puts("a", filled(4, 90)...)}},
		{{puts("a", 1), puts("b", 2)}, {puts("a", filled(4, 90)...)}, {puts("b", filled(5, 100)...), goes("a")}, {puts("a", filled(6, 20)...), puts("b", 1)}},
	} {
		ahead := &plain{s: small}
		for _, c := range row {
			want(t, "Commit, after the chapter", ahead.commit(c...), api.OK)
		}
		for keep := range 16 {
			done := false
			for fuse := 1; !done; fuse++ {
				if fuse > 20 {
					t.Fatal("it crashes at each fuse")
				}
				done = crashed(t, ahead, row, l, fuse, keep)
			}
		}
	}
}

// P6.5: the example of the chapter.
func TestExample(t *testing.T) {
	for fuse := 1; fuse <= 6; fuse++ {
		for keep := range 8 {
			d, x, _ := formatted(t, small)
			want(t, "Commit", x.Commit(puts("a", 1), puts("b", 2)), api.OK)
			d.Fuse(fuse)
			e := x.Commit(goes("a"), puts("c", 3))
			d.Crash()
			want(t, "Wake", d.Wake(keep), api.OK)
			ahead := &plain{s: small, rows: []api.Row{{Key: "a", Val: []byte{1}}, {Key: "b", Val: []byte{2}}}}
			behind := &plain{s: small, rows: []api.Row{{Key: "b", Val: []byte{2}}, {Key: "c", Val: []byte{3}}}}
			y := open(t, d, small)
			if !behind.has(y) && (e == api.OK || !ahead.has(y)) {
				t.Errorf("crashed at %d, keep %b: %s", fuse, keep, told(y.Rows("")))
			}
		}
	}
}

// P6.5: rows of Commits by chance, of which some crash: what was told stays, what crashed is there whole or not at all, and it goes on from there.
func TestRowsOfCommits(t *testing.T) {
	for seed := range int64(60) {
		r := rand.New(rand.NewSource(seed))
		s := api.Shape{Log: 1 + r.Intn(4), Area: 2 + r.Intn(3), Data: 1}
		d, x, p := formatted(t, s)
		for range 80 {
			l := some(r)
			if r.Intn(6) == 0 {
				d.Fuse(1 + r.Intn(8))
			}
			ahead := p.clone()
			e := x.Commit(l...)
			if e != api.ErrDown {
				want(t, "Commit", e, p.commit(l...))
				p.wantRows(t, x)
				if d.Fuse(0); r.Intn(4) == 0 {
					p.wantAlike(t, d, x)
				}
				continue
			}
			want(t, "Commit that crashes, after the chapter", p.commit(l...), api.OK)
			ahead.wantRefused(t, d, x)
			want(t, "Wake", d.Wake(r.Intn(64)), api.OK)
			x = open(t, d, s)
			// Where both have the same rows, the journal tells which of them it is.
			if j := journal(t, d, s); ahead.has(x) && !p.journals(j) {
				p = ahead
			}
			p.wantAlike(t, d, x)
		}
	}
}
