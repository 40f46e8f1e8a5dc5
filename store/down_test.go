package store_test

import (
	"bytes"
	"math"
	"testing"

	"spence/api"
	"spence/store"
)

// P16.4: of no store it is ErrNil, none, 0, and Down is true; likewise of one that Open did not tell.
func TestNoStore(t *testing.T) {
	p, a, _, _, _ := sample()
	b := laid(t, p)
	stat := b.d.Stat()
	copied := *b.x
	for _, x := range []*store.Store{nil, {}, new(store.Store), &copied} {
		for _, l := range [][]store.Deed{nil, {notes(1, "k", 1)}, {adds(1, "a", nil)}, {adds(1, "b", file("y"))}, {{}}, {notes(9, "k")}} {
			if told, e := x.Turn(l...); told != nil || e != api.ErrNil {
				t.Errorf("Turn: %v, error %d", told, e)
			}
		}
		for _, path := range []api.Path{a, {}, {Name: "a"}} {
			if got, e := x.Read(path); got != nil || e != api.ErrNil {
				t.Errorf("Read: %d, error %d", got, e)
			}
			want(t, "Check", x.Check(path), api.ErrNil)
			o, e := x.Find(path)
			want(t, "Find", e, api.ErrNil)
			if o.Path != (api.Path{}) || o.Size != 0 || o.Refs != nil || o.Self {
				t.Errorf("Find: %v", o)
			}
		}
		for _, who := range []int{1, 0, 2, -1, 9, math.MinInt, math.MaxInt} {
			objects, many := x.Sizes(who)
			if x.Of(who) != nil || objects != 0 || many != 0 || x.Roots(who) != nil || x.Notes(who, "") != nil {
				t.Errorf("of %d there is something", who)
			}
		}
		if x.Quotas() != nil || !x.Down() {
			t.Errorf("%v, Down is %v", x.Quotas(), x.Down())
		}
	}
	if b.d.Stat() != stat {
		t.Error("something is done")
	}
	b.wantAlike(t, "the one that was copied")
}

// wantDown asks that a store that is down tells so, does nothing, and tells what it has as it was.
func (b *both) wantDown(t *testing.T, what string) {
	t.Helper()
	stat, kept := b.d.Stat(), b.d.Kept()
	for _, l := range [][]store.Deed{nil, {notes(1, "k", 1)}, {adds(1, "a", nil)}, {adds(1, "b", file("y"))}, {{}}, {notes(9, "k")}} {
		if told, e := b.x.Turn(l...); told != nil || e != api.ErrDown {
			t.Errorf("%s: Turn: %v, error %d", what, told, e)
		}
	}
	wantTold(t, what, b.x, b.p, false)
	if b.d.Stat() != stat || !bytes.Equal(b.d.Kept(), kept) {
		t.Errorf("%s: something is done", what)
	}
}

// P16.3, P16.4: a device's error takes the store down, whichever call is told it; it stays so though the device is woken, till it is opened again.
func TestDown(t *testing.T) {
	p, a, bp, c, _ := sample()
	for what, call := range map[string]func(x *store.Store) api.Errno{
		"Read":                        func(x *store.Store) api.Errno { _, e := x.Read(a); return e },
		"Check":                       func(x *store.Store) api.Errno { return x.Check(bp) },
		"a Turn that writes":          func(x *store.Store) api.Errno { _, e := x.Turn(adds(1, "n", file("n"))); return e },
		"a Turn that reads":           func(x *store.Store) api.Errno { _, e := x.Turn(adds(2, "c", long(1, 150))); return e },
		"a Turn that commits":         func(x *store.Store) api.Errno { _, e := x.Turn(notes(2, "k", 7)); return e },
		"a Turn of many":              func(x *store.Store) api.Errno { _, e := x.Turn(notes(2, "k", 7), collects(2), adopts(1, a)); return e },
		"a Turn that reads of others": func(x *store.Store) api.Errno { _, e := x.Turn(adds(1, "c", long(1, 150))); return e },
	} {
		b := laid(t, p.clone())
		want(t, "Crash", b.d.Crash(), api.OK)
		if b.x.Down() {
			t.Errorf("%s: it is down ahead of it", what)
		}
		want(t, what, call(b.x), api.ErrDown)
		b.wantDown(t, what)
		want(t, "Wake", b.d.Wake(0), api.OK)
		b.wantDown(t, what+", the device is woken")
		old := *b
		b.x = open(t, b.d, b.shape)
		b.wantAlike(t, what+", opened again")
		b.must(t, what+", it goes on", adopts(1, c))
		old.p = p
		old.wantDown(t, what+", the old one")
	}
}

// P16.3: what tells no error of the device takes no store down, though the device be down: what asks it for nothing goes on.
func TestNotDown(t *testing.T) {
	p, a, bp, _, _ := sample()
	b := laid(t, p)
	b.d.Crash()
	for range 2 {
		b.mustShort(t, "nothing")
		b.mustShort(t, "what is so already", roots(1, "main", bp), notes(1, "k", 1), adopts(2, a))
		b.refusedShort(t, "what is refused", api.ErrNone, unnotes(1, "none"))
		b.refusedShort(t, "what is refused", api.ErrShape, adds(1, "a", nil))
		if o, e := b.x.Find(a); o.Path != a || e != api.OK {
			t.Errorf("Find: %v, error %d", o, e)
		}
		if _, e := b.x.Read(api.Path{}); e != api.ErrNone {
			t.Errorf("Read of none: error %d", e)
		}
		want(t, "Check of none", b.x.Check(api.Path{}), api.ErrNone)
		if b.x.Down() {
			t.Error("it is down")
		}
		if b.d.Stat().Down {
			want(t, "Wake", b.d.Wake(0), api.OK)
		}
	}
	b.wantAlike(t, "awake")
	b.must(t, "it goes on", notes(1, "k", 2))
	for _, path := range b.p.of(0) {
		b.spoil(t, path, 5)
	}
	b.wantAlike(t, "what is spoilt takes it not down")
	b.must(t, "it goes on", notes(1, "k", 3))
}

// mustShort asks that a turn is done that leaves all as it is, and that the device has nothing to do.
func (b *both) mustShort(t *testing.T, what string, l ...store.Deed) {
	t.Helper()
	stat := b.d.Stat()
	if told, e := b.x.Turn(l...); len(told) != len(l) || e != api.OK {
		t.Errorf("%s: %v, error %d", what, told, e)
	}
	if b.d.Stat() != stat {
		t.Errorf("%s: something is done", what)
	}
}
