package sweep_test

import (
	"fmt"
	"math/rand"
	"slices"
	"testing"

	"spence/api"
	"spence/sweep"
)

// example is the chapter's.
func example() (l plain, a, b, c, d api.Path) {
	a, b, c, d = pathOf("a", 1), pathOf("b", 2), pathOf("c", 3), pathOf("d", 4)
	l = plain{
		{api.Object{Path: c, Size: 4, Refs: []api.Path{b}}, by(1)},
		{api.Object{Path: d, Size: 8, Refs: []api.Path{a}}, by(1)},
		{api.Object{Path: a, Size: 1}, by(1, 2)},
		{api.Object{Path: b, Size: 2}, by(1)},
	}
	return l, a, b, c, d
}

// P15.1, P15.2: the chapter's example.
func TestExample(t *testing.T) {
	l, a, b, c, d := example()
	s := l.shelf(t)
	wantNeeded(t, "c", s, 1, []api.Path{c}, []api.Path{b, c}, api.OK)
	w := sweep.Plan{Idle: []api.Path{d, a}, Gone: []api.Path{d}, Objects: 2, Bytes: 9, Freed: 8}
	wantMade(t, "c", s, 1, []api.Path{c}, w, api.OK)
	l.wantShelf(t, "made", s)
	wantDone(t, "c", s, 1, []api.Path{c}, w, api.OK)
	wantPaths(t, "done", s.Of(1), []api.Path{b, c})
	wantPaths(t, "done", s.Of(2), []api.Path{a})
	if _, e := s.Find(d); e != api.ErrNone {
		t.Error("d is there")
	}
	wantDone(t, "again", s, 1, []api.Path{c}, sweep.Plan{}, api.OK)
	wantDone(t, "2", s, 2, nil, sweep.Plan{Idle: []api.Path{a}, Gone: []api.Path{a}, Objects: 1, Bytes: 1, Freed: 1}, api.OK)
}

// P15.2: what is idle, each path ahead of all that it refers to: the order of graph from its end to its begin.
func TestOrderOfIdle(t *testing.T) {
	// What is referred to is greater here, or less, by turns.
	l := plain{
		held(1, by(1), 5, 7),
		held(2, by(1)),
		held(3, by(1), 1, 8),
		held(4, by(1), 2, 3, 8),
		held(5, by(1), 2),
		held(6, by(1), 4),
		held(7, by(1), 5),
		held(8, by(1)),
	}
	r := rand.New(rand.NewSource(52))
	for _, c := range []struct{ roots, idle []api.Path }{
		{nil, numbers(6, 4, 3, 8, 1, 7, 5, 2)},
		{numbers(2), numbers(6, 4, 3, 8, 1, 7, 5)},
		{numbers(8), numbers(6, 4, 3, 1, 7, 5, 2)},
		{numbers(5), numbers(6, 4, 3, 8, 1, 7)},
		{numbers(7), numbers(6, 4, 3, 8, 1)},
		{numbers(7, 8), numbers(6, 4, 3, 1)},
		{numbers(1), numbers(6, 4, 3, 8)},
		{numbers(3), numbers(6, 4)},
		{numbers(4), numbers(6)},
		{numbers(6), nil},
		{numbers(1, 2, 3, 4, 5, 6, 7, 8), nil},
	} {
		w := sweep.Plan{Idle: c.idle, Gone: c.idle, Objects: len(c.idle)}
		for _, p := range c.idle {
			w.Bytes += l.at(p).Size
		}
		w.Freed = w.Bytes
		for range 5 {
			l = shuffled(r, l)
			s := l.shelf(t)
			what := fmt.Sprint("roots ", c.roots)
			roots := shuffled(r, append(slices.Clone(c.roots), c.roots...))
			wantMade(t, what, s, 1, roots, w, api.OK)
			wantDone(t, what, s, 1, roots, w, api.OK)
			l.without(1, c.idle).wantShelf(t, what, s)
		}
	}
}

// P15.2: of paths that refer to nothing those that are behind go first; of one hash the names say which.
func TestOrderOfNames(t *testing.T) {
	var l plain
	for _, p := range []api.Path{pathOf("b", 2), pathOf("B", 2), pathOf("a", 2, 1), pathOf("a", 2), pathOf("z", 1)} {
		l = append(l, thing{api.Object{Path: p, Size: 3}, by(4)})
	}
	w := []api.Path{pathOf("a", 2, 1), pathOf("b", 2), pathOf("a", 2), pathOf("B", 2), pathOf("z", 1)}
	wantMade(t, "names", l.shelf(t), 4, nil, sweep.Plan{Idle: w, Gone: w, Objects: 5, Bytes: 15, Freed: 15}, api.OK)
	// One that refers to all others goes ahead of them.
	first := thing{api.Object{Path: pathOf("a", 0, 1), Refs: plainSorted(w)}, by(4)}
	w = append([]api.Path{first.Path}, w...)
	wantMade(t, "names", append(l, first).shelf(t), 4, nil, sweep.Plan{Idle: w, Gone: w, Objects: 6, Bytes: 15, Freed: 15}, api.OK)
}

// P15.2: gone is what nobody else holds, whoever else it is.
func TestGone(t *testing.T) {
	for who := 1; who <= 8; who++ {
		for holders := range 256 {
			others := by()
			for other := 1; other <= 8; other++ {
				if other != who && holders>>(other-1)&1 == 1 {
					others = append(others, other)
				}
			}
			l := plain{held(1, by(who)), held(2, append(others, who), 1), held(3, by(who), 2), held(4, by(who))}
			// What others hold is not whole, and need not be.
			s := l.shelf(t)
			w := sweep.Plan{Idle: numbers(3, 2, 1), Gone: numbers(3, 2, 1), Objects: 3, Bytes: 6, Freed: 6}
			if len(others) > 0 {
				w.Gone, w.Freed = numbers(3, 1), 4
			}
			wantMade(t, "made", s, who, numbers(4), w, api.OK)
			wantDone(t, "done", s, who, numbers(4), w, api.OK)
			l.without(who, w.Idle).wantShelf(t, "done", s)
		}
	}
	// Nothing is gone, where all is held by others, too; what they need is nothing to it.
	l := plain{held(1, by(1, 2), 2), held(2, by(1, 2)), held(3, by(1, 3, 8))}
	s := l.shelf(t)
	wantDone(t, "others", s, 1, numbers(3), sweep.Plan{Idle: numbers(1, 2), Objects: 2, Bytes: 3}, api.OK)
	wantPaths(t, "of 2", s.Of(2), numbers(1, 2))
	wantDone(t, "2", s, 2, numbers(2), sweep.Plan{Idle: numbers(1), Gone: numbers(1), Objects: 1, Bytes: 1, Freed: 1}, api.OK)
}

// P15.2: bytes are those of the objects' sizes, from nothing to the most.
func TestBytes(t *testing.T) {
	l := plain{held(1, by(1)), held(2, by(1, 2)), held(3, by(1), 2), held(4, by(1))}
	l[0].Size, l[1].Size, l[2].Size, l[3].Size = 4096, 4095, 0, 77
	s := l.shelf(t)
	wantMade(t, "all", s, 1, nil, sweep.Plan{Idle: numbers(4, 3, 2, 1), Gone: numbers(4, 3, 1), Objects: 4, Bytes: 8268, Freed: 4173}, api.OK)
	wantMade(t, "two", s, 1, numbers(1, 4), sweep.Plan{Idle: numbers(3, 2), Gone: numbers(3), Objects: 2, Bytes: 4095}, api.OK)
}

// P15.2: a ring in what is idle is ErrShape, and nothing is let go.
func TestRingOfIdle(t *testing.T) {
	for many := 2; many <= 6; many++ {
		l := chain(many, 1, 2)
		l[many-1].Refs = numbers(0)
		l = append(l, held(10, by(1), many-1, 11), held(11, by(1)), held(12, by(1), 11), held(13, by(1), 10), held(14, by(1, 3)))
		s := l.shelf(t)
		for _, roots := range [][]api.Path{nil, numbers(11), numbers(12), numbers(14, 11), numbers(14)} {
			what := fmt.Sprint("a ring of ", many, ", roots ", roots)
			wantMade(t, what, s, 1, roots, sweep.Plan{}, api.ErrShape)
			wantDone(t, what, s, 1, roots, sweep.Plan{}, api.ErrShape)
			l.wantShelf(t, what, s)
		}
		wantNeeded(t, "a ring", s, 1, numbers(12), numbers(11, 12), api.OK)
		wantMade(t, "a ring alone", s, 2, nil, sweep.Plan{}, api.ErrShape)
		// A ring that is needed is none of what is idle, nor is one that another one holds; what refers to it may go.
		wantMade(t, "needed", s, 3, nil, sweep.Plan{Idle: numbers(14), Objects: 1, Bytes: 14}, api.OK)
		wantMade(t, "needed", s, 2, numbers(0), sweep.Plan{}, api.OK)
		wantMade(t, "needed", s, 1, numbers(many-1), sweep.Plan{Idle: numbers(14, 13, 12, 10, 11), Gone: numbers(13, 12, 10, 11), Objects: 5, Bytes: 60, Freed: 46}, api.OK)
		l.wantAlike(t, "needed", s, 1, numbers(0, 12))
	}
	// A part of a ring is needed just if all of it is.
	l := plain{held(1, by(1), 2), held(2, by(1), 1, 3), held(3, by(1)), held(4, by(1), 1, 2, 3)}
	wantMade(t, "behind it", l.shelf(t), 1, numbers(3), sweep.Plan{}, api.ErrShape)
	wantMade(t, "ahead of it", l.shelf(t), 1, numbers(2), sweep.Plan{Idle: numbers(4), Gone: numbers(4), Objects: 1, Bytes: 4, Freed: 4}, api.OK)
}

// P15.2: one that refers to itself is no ring.
func TestItself(t *testing.T) {
	l := plain{held(1, by(1)), held(2, by(1), 1), held(3, by(1), 2)}
	for i := range l {
		l[i].Self = true
	}
	wantMade(t, "itself", l.shelf(t), 1, numbers(1), sweep.Plan{Idle: numbers(3, 2), Gone: numbers(3, 2), Objects: 2, Bytes: 5, Freed: 5}, api.OK)
	l.wantAlike(t, "itself", l.shelf(t), 1, nil)
}

// P15.2: more ways among what is idle than one could go.
func TestManyWays(t *testing.T) {
	var l plain
	for i := range 1500 {
		var refs []int
		for k := i + 1; k < min(i+33, 1500); k++ {
			refs = append(refs, k)
		}
		l = append(l, held(i, by(1), refs...))
		l[i].Size = 1
	}
	var w []api.Path
	for i := range 1000 {
		w = append(w, numbered(i))
	}
	wantDone(t, "many", l.shelf(t), 1, numbers(1000), sweep.Plan{Idle: w, Gone: w, Objects: 1000, Bytes: 1000, Freed: 1000}, api.OK)
}
