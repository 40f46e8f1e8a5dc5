package store_test

import (
	"fmt"
	"slices"
	"testing"

	"spence/api"
)

// row is so many objects in a row, each of which refers to the one ahead of it, added by a user at once.
func (b *both) row(t *testing.T, who, many int) []api.Path {
	t.Helper()
	var l []api.Path
	for i := range many {
		p := b.must(t, fmt.Sprint("object ", i), adds(who, fmt.Sprint("n", i), refers(l[max(0, i-1):]...), l...))
		l = append(l, p[0])
	}
	return l
}

// P16.2: who adopts an object holds its closure, which lies where it lay; its path is told.
func TestAdopt(t *testing.T) {
	b := formatted(t, some, some, some)
	l := b.row(t, 1, 4)
	deeds := b.d.Stat().Deeds
	wantPaths(t, "told", b.must(t, "adopt", adopts(2, l[2])), l[2:3])
	wantPaths(t, "held", b.x.Of(2), plainSorted(l[:3]))
	if b.d.Stat().Deeds-deeds > 12 {
		t.Error("bytes are written")
	}
	b.must(t, "adopt of what is held", adopts(2, l[2]), adopts(2, l[0]), adopts(1, l[3]))
	b.must(t, "adopt of more", adopts(2, l[3]))
	b.must(t, "adopt of what needs nothing", adopts(3, l[0]))
	wantPaths(t, "held", b.x.Of(3), l[:1])
	b.again(t, "all")
}

// P16.2: ErrNone, if there is no such object.
func TestAdoptNone(t *testing.T) {
	b := formatted(t, some, none)
	p := b.must(t, "a", adds(1, "a", file("x")))[0]
	q := pathOf(t, adds(1, "b", file("y")))
	for _, who := range []int{1, 2} {
		for _, path := range []api.Path{{}, q, {Hash: p.Hash, Name: "b"}, {Hash: p.Hash}, {Hash: api.Hash{1}, Name: "a"}, {Hash: p.Hash, Name: ".a"}} {
			b.refused(t, "none", api.ErrNone, adopts(who, path))
		}
	}
	b.must(t, "b", adds(1, "b", file("y")), adopts(1, q))
	b.must(t, "let go", collects(1))
	b.refused(t, "gone", api.ErrNone, adopts(1, q))
}

// P16.2: ErrQuota, unless the user may have what of the closure it does not hold yet: just as many objects, and bytes, and one fewer; of all of it, and of some that it holds.
func TestAdoptQuota(t *testing.T) {
	b := formatted(t, some)
	b.row(t, 1, 3)
	_, all := b.p.sizes(1)
	for i, c := range []struct {
		quota api.Quota
		e     api.Errno
	}{
		{api.Quota{Bytes: all, Objects: 3}, api.OK},
		{api.Quota{Bytes: all - 1, Objects: 3}, api.ErrQuota},
		{api.Quota{Bytes: all, Objects: 2}, api.ErrQuota},
		{api.Quota{Bytes: all, Objects: 0}, api.ErrQuota},
		{api.Quota{Bytes: 0, Objects: 3}, api.ErrQuota},
	} {
		for held := range 3 {
			b := formatted(t, some, c.quota)
			l := b.row(t, 1, 3)
			if held > 0 && (c.quota.Bytes == 0 || c.quota.Objects == 0) {
				continue
			}
			for _, p := range l[:held] {
				b.must(t, "one of it", adopts(2, p))
			}
			_, e := b.turn(t, fmt.Sprintf("case %d, %d held", i, held), adopts(2, l[2]))
			want(t, fmt.Sprintf("case %d, %d held", i, held), e, c.e)
		}
	}
	b = formatted(t, some, none)
	l := b.row(t, 1, 1)
	b.refused(t, "nothing may be had", api.ErrQuota, adopts(2, l[0]))
	b.refused(t, "none of it is had ahead of an error", api.ErrQuota, adopts(1, l[0]), adopts(2, l[0]))
}

// P16.2: rings are adopted as all else.
func TestAdoptRing(t *testing.T) {
	b, l := ring(t)
	b.must(t, "adopt", adopts(2, l[1]))
	wantPaths(t, "held", b.x.Of(2), plainSorted(l))
	b.again(t, "all")
}

// ring is a store in which 1 holds three objects of a ring, made by hand; 2 holds nothing.
func ring(t *testing.T) (*both, []api.Path) {
	t.Helper()
	p := plainOf(fitting(4, some, some), some, some)
	var l []api.Path
	for i := range 3 {
		l = append(l, api.Path{Hash: api.Hash{byte(9 * i), 1}, Name: "n"})
	}
	for i, path := range l {
		p.things = append(p.things, thing{api.Object{Path: path, Size: 4, Refs: []api.Path{l[(i+1)%3]}}, filled(i, 4), runs(5*i, 1), []int{1}})
	}
	return laid(t, p), slices.Clone(l)
}
