package store_test

import (
	"bytes"
	"slices"
	"testing"

	"spence/api"
	"spence/store"
)

// P16.2: the chapter's example.
func TestExample(t *testing.T) {
	b := formatted(t, some, some)
	first := adds(1, "a", long(1, 150))
	p := b.must(t, "1 adds a file", first)[0]
	b.must(t, "roots it", roots(1, "r", p))
	q := b.must(t, "adds another one", adds(1, "b", file("y")))[0]
	wantPaths(t, "told", b.must(t, "collects", collects(1)), []api.Path{{}})
	if _, e := b.x.Find(p); e != api.OK {
		t.Error("the first one is not there")
	}
	if _, e := b.x.Find(q); e != api.ErrNone {
		t.Error("the other one is there")
	}
	was, kept := slices.Clone(b.p.at(p).runs), b.d.Kept()
	first.Who = 2
	b.must(t, "2 adds the first one", first)
	if !slices.Equal(b.p.at(p).runs, was) {
		t.Error("its sectors are others")
	}
	data := len(kept) - b.shape.Data*64
	if !bytes.Equal(b.d.Kept()[data:], kept[data:]) {
		t.Error("sectors are written")
	}
	b.again(t, "all")
}

// P16.2: a user lets go what its roots do not need, and that alone; what others hold is there.
func TestCollect(t *testing.T) {
	b := formatted(t, some, some, some)
	l := b.row(t, 1, 4)
	b.must(t, "held by 2", adopts(2, l[1]))
	b.must(t, "a root in the middle", roots(1, "r", l[2]), roots(1, "s", l[1]))
	b.must(t, "collect", collects(1))
	wantPaths(t, "of 1", b.x.Of(1), plainSorted(l[:3]))
	b.must(t, "again", collects(1), collects(1))
	b.must(t, "no roots", unroots(1, "r"), unroots(1, "s"), collects(1))
	wantPaths(t, "of 1", b.x.Of(1), nil)
	wantPaths(t, "of 2", b.x.Of(2), plainSorted(l[:2]))
	b.again(t, "held by 2 alone")
	b.must(t, "nothing to collect", collects(1), collects(3))
	b.must(t, "the last one", collects(2))
	wantPaths(t, "of all", b.x.Of(0), nil)
	b.again(t, "nothing is left")
	if rows := rowsOn(t, b.d, b.shape); len(rows) != 3 {
		t.Errorf("rows are left: %s", told(rows))
	}
}

// P16.2: what is beside a collect in its deed is nothing.
func TestCollectBeside(t *testing.T) {
	b := formatted(t, some, some)
	p := b.must(t, "a", adds(1, "a", file("x")))[0]
	b.must(t, "collect", store.Deed{Kind: store.DeedCollect, Who: 2, Path: p, Name: "r", Bytes: file("x"), Of: []api.Path{p}})
	b.must(t, "collect", store.Deed{Kind: store.DeedCollect, Who: 1, Path: p, Name: "r", Of: []api.Path{p}})
	wantPaths(t, "of all", b.x.Of(0), nil)
}

// P16.2: sectors of what is gone are free for the next turn.
func TestCollectFrees(t *testing.T) {
	b := formatted(t, some, some)
	p := b.must(t, "a", adds(1, "a", long(1, 150)))[0]
	was := slices.Clone(b.p.at(p).runs)
	b.must(t, "collect", collects(1))
	q := b.must(t, "b", adds(2, "b", long(2, 150)))[0]
	if !slices.Equal(b.p.at(q).runs, was) {
		t.Errorf("it lies at %v", b.p.at(q).runs)
	}
}

// P16.2: sweep.Do's error: of a ring that is idle; one that is needed is none.
func TestCollectRing(t *testing.T) {
	b, l := ring(t)
	b.refusedShort(t, "an idle ring", api.ErrShape, collects(1))
	b.refusedShort(t, "an idle ring", api.ErrShape, notes(1, "k", 1), collects(1))
	b.wantAlike(t, "behind what is refused")
	b.must(t, "a ring that is needed", roots(1, "r", l[0]), collects(1))
	b.must(t, "of one who holds nothing", collects(2))
	b.must(t, "held by 2", adopts(2, l[0]))
	b.refusedShort(t, "an idle ring of 2", api.ErrShape, collects(2))
	b.refusedShort(t, "no root", api.ErrShape, unroots(1, "r"), collects(1))
	b.again(t, "all")
}
