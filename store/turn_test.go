package store_test

import (
	"bytes"
	"fmt"
	"slices"
	"testing"

	"spence/api"
	"spence/store"
)

// P16.2: a turn of no deeds, and one that leaves all as it is, tells OK, and does nothing.
func TestTurnOfNothing(t *testing.T) {
	b := formatted(t, some, some)
	d := adds(1, "a", file("x"))
	p := b.must(t, "something", d, notes(1, "k", 1), roots(1, "r", pathOf(t, d)))[0]
	deeds := b.d.Stat().Deeds
	for _, l := range [][]store.Deed{
		nil, {}, {d}, {adopts(1, p)}, {roots(1, "r", p)}, {notes(1, "k", 1)}, {collects(1)}, {collects(2)},
		{notes(1, "k", 2), notes(1, "k", 1)}, {unnotes(1, "k"), notes(1, "k", 1)}, {unroots(1, "r"), roots(1, "r", p)},
		{adopts(2, p), collects(2)}, {notes(2, "z", 1), unnotes(2, "z")},
	} {
		if got := b.must(t, fmt.Sprint(l), l...); len(got) != len(l) {
			t.Errorf("%v: %v is told", l, got)
		}
	}
	if b.d.Stat().Deeds != deeds {
		t.Error("something is done")
	}
}

// P16.2: deeds are done one behind the other, each on what those ahead of it left; each one's path is told.
func TestTurnInOrder(t *testing.T) {
	b := formatted(t, some, some)
	d := adds(1, "a", file("x"))
	p := pathOf(t, d)
	f := adds(1, "b", refers(p, dummy2()), p)
	q := pathOf(t, f)
	got := b.must(t, "all at once", notes(2, "k", 1), d, f, roots(1, "main", q), notes(1, "k", 1), roots(1, "old", p), unroots(1, "old"), adopts(2, q), unnotes(1, "k"), collects(1), d, collects(2))
	wantPaths(t, "told", got, []api.Path{{}, p, q, q, {}, p, p, q, {}, {}, p, {}})
	wantPaths(t, "of 1", b.x.Of(1), plainSorted([]api.Path{p, q}))
	b.again(t, "all at once")
	b.refused(t, "out of order", api.ErrRefs, collects(2), unroots(1, "main"), collects(1), f, d)
	b.must(t, "gone and there again", unroots(1, "main"), collects(1), d, f)
	b.again(t, "gone and there again")
}

// P16.2: where a deed tells an error, nothing is another one, whatever is ahead of it, or behind it; the first error is told.
func TestTurnAllOrNothing(t *testing.T) {
	b := formatted(t, some, some)
	p := b.must(t, "a", adds(1, "a", file("x")))[0]
	b.must(t, "root, note", roots(1, "r", p), notes(1, "k", 1))
	good := []store.Deed{adds(2, "b", long(1, 150)), notes(1, "k", 2), notes(1, "l"), unroots(1, "r"), collects(1), roots(2, "r", pathOf(t, adds(2, "b", long(1, 150)))), unnotes(1, "k"), adopts(1, pathOf(t, adds(2, "b", long(1, 150))))}
	wrong := map[api.Errno]store.Deed{
		api.ErrUser: notes(3, "k"), api.ErrArg: {Who: 1}, api.ErrShape: adds(1, "a", nil), api.ErrNone: unnotes(2, "none"), api.ErrLong: notes(1, "k", make([]byte, 3000)...), api.ErrRefs: roots(2, "z", api.Path{}),
	}
	for e, d := range wrong {
		for at := range len(good) + 1 {
			b.refused(t, fmt.Sprintf("error %d at %d", e, at), e, slices.Insert(slices.Clone(good), at, d)...)
		}
		for w, other := range wrong {
			if e != w {
				b.refused(t, "two errors", e, slices.Concat(good[:2], []store.Deed{d}, good[2:4], []store.Deed{other})...)
			}
		}
	}
	b.must(t, "without one", good...)
	b.again(t, "without one")
}

// P16.2: what is written lies apart from all that was held ahead of the turn, though it be let go in it, and from all that is written in it, though that be gone again.
func TestTurnRuns(t *testing.T) {
	b := formatted(t, some, some)
	d, f := adds(1, "a", long(1, 150)), adds(1, "b", long(2, 150))
	p, own := ownOf(t, d)
	b.must(t, "a, b", d, f)
	was := slices.Clone(b.p.at(p).runs)
	b.must(t, "gone and there again", collects(1), d)
	if slices.Equal(b.p.at(p).runs, was) || b.p.at(p).runs[0].At < 6 {
		t.Errorf("it lies at %v", b.p.at(p).runs)
	}
	b.again(t, "gone and there again")
	b.must(t, "written many times", mends(1, p, own), collects(1), d, mends(1, p, own), collects(1), f, d, mends(1, p, own))
	if n := b.p.at(p).runs[0].At; n < 3*4 {
		t.Errorf("it lies at %d", n)
	}
	b.again(t, "written many times")
	b.must(t, "written, and gone", collects(1), adds(2, "c", long(3, 150)), collects(2))
	if rows := rowsOn(t, b.d, b.shape); len(rows) != 2 {
		t.Errorf("rows are left: %s", told(rows))
	}
	b.must(t, "all is free", d)
	if b.p.at(p).runs[0] != (api.Run{Many: 3}) {
		t.Errorf("it lies at %v", b.p.at(p).runs)
	}
}

// P16.2: runs that are found are the first free sectors, in pieces where others are in between.
func TestTurnPieces(t *testing.T) {
	b := formatted(t, some, some)
	var l []api.Path
	for i := range 6 {
		p := b.must(t, "one", adds(1+i%2, fmt.Sprint("n", i), file(string(filled(i, 60)))))[0]
		l = append(l, p)
	}
	b.must(t, "each other one goes", roots(2, "r", l[1]), roots(2, "s", l[3]), roots(2, "t", l[5]), collects(1))
	p := b.must(t, "in pieces", adds(1, "long", long(7, 300)))[0]
	if w := runs(0, 1, 2, 1, 4, 1, 6, 2); !slices.Equal(b.p.at(p).runs, w) {
		t.Errorf("it lies at %v", b.p.at(p).runs)
	}
	b.again(t, "in pieces")
}

// full is a store with 129 sectors of data, of which an object has 64.
func full(t *testing.T) (*both, api.Path, []byte) {
	t.Helper()
	b := formatted(t, api.Quota{Bytes: 4096, Objects: 1, Roots: 1, Notes: 2})
	d := adds(1, "a", long(1, 4096))
	p, own := ownOf(t, d)
	b.must(t, "the longest object", d)
	return b, p, own
}

// P16.2: ErrFull, if no runs are found, of whichever deed; a deed's error is told ahead of it, wherever it stands.
func TestFull(t *testing.T) {
	b, p, own := full(t)
	m, stays := mends(1, p, own), store.Deed{Kind: store.DeedNote, Who: 1, Name: "k"}
	for range 5 {
		b.must(t, "one mend", m)
	}
	b.must(t, "one mend, and more", stays, m, roots(1, "r", p))
	b.refused(t, "two mends", api.ErrFull, m, m)
	b.refused(t, "two mends, and more", api.ErrFull, notes(1, "k", 1), m, m, notes(1, "k", 2))
	b.refused(t, "gone and there again, twice", api.ErrFull, unroots(1, "r"), m, collects(1), adds(1, "a", long(1, 4096)))
	b.refused(t, "a deed's error behind it", api.ErrNone, m, m, unnotes(1, "none"))
	b.refused(t, "a deed's error behind it", api.ErrUser, m, m, m, notes(2, "k"))
	b.refused(t, "a deed's error ahead of it", api.ErrHash, mends(1, p, own[1:]), m, m)
	if b.x.Down() {
		t.Error("it is down")
	}
	b.must(t, "one mend", m)
	// 64 and one sectors are free: what needs them just fits.
	b.must(t, "one that fits", unroots(1, "r"), collects(1), adds(1, "b", long(2, 4096)))
	b.refused(t, "one that does not, where one sector is left", api.ErrFull, collects(1), adds(1, "b", long(2, 4096)), collects(1), adds(1, "c", archive(65)))
	b.must(t, "one that does, where one sector is left", collects(1), adds(1, "b", long(2, 4096)), collects(1), adds(1, "c", archive(64)))
	b.again(t, "all")
}

// P16.2: table.Commit's error: a turn of more rows than it takes at once tells ErrLong, and nothing is another one; one of just as many is done.
func TestTurnTooLong(t *testing.T) {
	quota := api.Quota{Bytes: 64, Objects: 1, Roots: 100, Notes: 1}
	b := formatted(t, slices.Repeat([]api.Quota{quota}, 4)...)
	var come, gone []store.Deed
	for who := 1; who <= 4; who++ {
		d := adds(who, "a", file(fmt.Sprint(who)))
		b.must(t, "a", d)
		for i := range 100 {
			come = append(come, roots(who, fmt.Sprint("r", i), pathOf(t, d)))
			gone = append(gone, unroots(who, fmt.Sprint("r", i)))
		}
	}
	one := []store.Deed{notes(4, "k", 1)}
	for range 2 {
		b.refusedShort(t, "401 rows", api.ErrLong, slices.Concat(come, one)...)
		b.must(t, "400 rows", come...)
		b.must(t, "the same 400 rows, which are no others, and one", slices.Concat(come, one)...)
		b.must(t, "one goes", unnotes(4, "k"))
		b.refusedShort(t, "401 rows", api.ErrLong, slices.Concat(one, gone)...)
		b.must(t, "more deeds, of fewer rows", slices.Concat(gone, come, gone, one, come[:300])...)
		b.must(t, "the others, and one goes", slices.Concat(come[300:], []store.Deed{unnotes(4, "k")})...)
		b.must(t, "400 rows go", gone...)
	}
	b.again(t, "all")
}

// P16.2: bytes that were written ahead of a Commit that tells ErrLong are nothing: the sectors are free, and the store is up.
func TestTurnTooLongWritten(t *testing.T) {
	quota := api.Quota{Bytes: 64, Objects: 1, Roots: 100}
	b := formatted(t, slices.Repeat([]api.Quota{quota}, 5)...)
	var l []store.Deed
	for who := 1; who <= 5; who++ {
		d := adds(who, "a", file(fmt.Sprint(who)))
		l = append(l, d)
		for i := range 100 {
			l = append(l, roots(who, fmt.Sprint("r", i), pathOf(t, d)))
		}
	}
	rows := rowsOn(t, b.d, b.shape)
	if told, e := b.x.Turn(l...); told != nil || e != api.ErrLong {
		t.Errorf("%v, error %d", told, e)
	}
	b.wantAlike(t, "refused")
	if !sameRows(rowsOn(t, b.d, b.shape), rows) {
		t.Error("rows are others")
	}
	x, e := b.x.Turn(l[:101]...)
	want(t, "one user's", e, api.OK)
	if len(x) != 101 || b.x.Of(1)[0] != x[0] || b.x.Check(x[0]) != api.OK {
		t.Errorf("told: %v", x)
	}
}

// R3, R4: what is told is new memory, and is told alike again.
func TestNewMemory(t *testing.T) {
	p, _, _, c, itself := sample()
	b := laid(t, p)
	for range 2 {
		for who := range 4 {
			clear(b.x.Of(who))
			clear(b.x.Roots(who))
			for _, n := range b.x.Notes(who, "") {
				clear(n.Val)
			}
			clear(b.x.Notes(who, ""))
		}
		clear(b.x.Quotas())
		for _, path := range p.of(0) {
			o, _ := b.x.Find(path)
			clear(o.Refs)
			got, _ := b.x.Read(path)
			clear(got)
		}
		b.wantAlike(t, "behind a change of what went out")
	}
	got := b.must(t, "adopt", adopts(1, c), adopts(1, itself))
	clear(got)
	l := []store.Deed{notes(1, "k", 5), roots(1, "main", c)}
	was := slices.Clone(l)
	b.must(t, "deeds", l...)
	if l[0].Name != was[0].Name || !bytes.Equal(l[0].Bytes, was[0].Bytes) || l[1].Path != was[1].Path {
		t.Error("deeds are changed")
	}
}
