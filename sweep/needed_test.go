package sweep_test

import (
	"fmt"
	"math/rand"
	"testing"

	"spence/api"
	"spence/cas"
	"spence/sweep"
)

// wantWhole asks whether what holders hold is whole.
func wantWhole(t *testing.T, what string, s *cas.Shelf, who int, w bool) {
	t.Helper()
	if whole := sweep.Whole(s, who); whole != w {
		t.Errorf("%s: Whole of %d: %v", what, who, whole)
	}
}

// P15.1: what a holder holds is whole, if it holds itself all that an object it holds refers to.
func TestWhole(t *testing.T) {
	l := plain{
		held(1, by(1, 2, 3, 8)),
		held(2, by(1, 2, 4, 8), 1),
		held(3, by(1, 3, 5), 1, 2),
		held(4, by(6), 9),
		held(5, by(7, 8), 6),
		held(6, by(7), 5),
	}
	s := l.shelf(t)
	for who, w := range map[int]bool{
		1: true,  // all of three
		2: true,  // two, of which one refers to the other
		3: false, // what 3 refers to is there, but 2 is not held
		4: false, // of one object what it refers to is held by others alone
		5: false,
		6: false, // what it refers to is not there at all
		7: true,  // a ring
		8: false, // a part of a ring, beside what is whole
	} {
		wantWhole(t, "some", s, who, w)
	}
	l.wantShelf(t, "some", s)
	// Nothing is whole, and what refers to itself alone.
	self := held(7, by(2))
	self.Self = true
	s = plain{self}.shelf(t)
	wantWhole(t, "nothing", s, 1, true)
	wantWhole(t, "itself", s, 2, true)
	wantWhole(t, "an empty shelf", &cas.Shelf{}, 1, true)
}

// P15.1: each one of the refs of each object must be held, by their paths.
func TestWholeOfEachRef(t *testing.T) {
	all := make([]int, 32)
	for i := range all {
		all[i] = 100 + i
	}
	for _, lack := range all {
		l := plain{held(50, by(3)), held(200, by(3), all...), held(201, by(3), 50)}
		for _, i := range all {
			l = append(l, held(i, by(5)))
			if i != lack {
				l = append(l, held(i, by(3)))
			}
		}
		s := l.shelf(t)
		wantWhole(t, fmt.Sprint("without ", lack), s, 3, false)
		wantNeeded(t, fmt.Sprint("without ", lack), s, 3, numbers(50), nil, api.ErrRefs)
		wantError(t, "Hold", s.Hold(numbered(lack), 3), api.OK)
		wantWhole(t, "with all", s, 3, true)
		wantNeeded(t, "with all", s, 3, numbers(50), numbers(50), api.OK)
	}
	// Of its hash, of its name: it is another one.
	a, b := pathOf("a", 1), pathOf("b", 1)
	l := plain{{api.Object{Path: b}, by(1)}, {api.Object{Path: pathOf("a", 2)}, by(1)}, {api.Object{Path: pathOf("c", 3), Refs: []api.Path{a}}, by(1)}}
	s := l.shelf(t)
	wantWhole(t, "another one", s, 1, false)
	wantError(t, "Add", s.Add(api.Object{Path: a}, 1), api.OK)
	wantWhole(t, "this one", s, 1, true)
}

// P15.1: of no shelf, no holder: nothing is whole.
func TestWholeOfNothing(t *testing.T) {
	s := plain{held(1, by(1, 8), 2), held(3, by(1, 2, 3, 4, 5, 6, 7, 8), 4, 5)}.shelf(t)
	for who := 1; who <= 8; who++ {
		wantWhole(t, "not whole", s, who, false)
		wantWhole(t, "no shelf", nil, who, true)
	}
	for _, who := range noHolders {
		wantWhole(t, "no holder", s, who, true)
		wantWhole(t, "no shelf, no holder", nil, who, true)
	}
}

// P15.1: what is needed, in order, each once, whatever order the roots are in.
func TestNeeded(t *testing.T) {
	l := plain{
		held(1, by(1, 2, 3)),
		held(2, by(1, 3), 1, 5, 7),
		held(3, by(1), 2),
		held(4, by(1)),
		held(5, by(1, 3), 7),
		held(6, by(1, 3)),
		held(7, by(1, 3)),
		held(8, by(1, 4), 9),
		held(9, by(1, 4), 8),
	}
	l[3].Self = true
	s := l.shelf(t)
	r := rand.New(rand.NewSource(51))
	for _, c := range []struct {
		who      int
		roots, w []api.Path
	}{
		{1, nil, nil},
		{1, []api.Path{}, nil},
		{1, numbers(1), numbers(1)},
		{1, numbers(2), numbers(1, 2, 5, 7)},
		{1, numbers(3), numbers(1, 2, 3, 5, 7)},
		{1, numbers(4), numbers(4)},
		{1, numbers(5, 1, 5), numbers(1, 5, 7)},
		{1, numbers(6, 3, 4), numbers(1, 2, 3, 4, 5, 6, 7)},
		{1, numbers(8), numbers(8, 9)},
		{1, numbers(9, 6), numbers(6, 8, 9)},
		{1, numbers(9, 8, 7, 6, 5, 4, 3, 2, 1), numbers(1, 2, 3, 4, 5, 6, 7, 8, 9)},
		{2, numbers(1), numbers(1)},
		{2, nil, nil},
		{3, numbers(2), numbers(1, 2, 5, 7)},
		{3, numbers(6, 5), numbers(5, 6, 7)},
		{4, numbers(9), numbers(8, 9)},
		{5, nil, nil},
	} {
		for range 5 {
			wantNeeded(t, fmt.Sprint(c.who, c.roots), s, c.who, shuffled(r, c.roots), c.w, api.OK)
		}
	}
	l.wantShelf(t, "told", s)
}

// P15.1: of no shelf ErrNil, ahead of all else; of no holder ErrArg, ahead of ErrRefs.
func TestNoShelfNoHolder(t *testing.T) {
	l := plain{held(1, by(1, 2, 3, 4, 5, 6, 7, 8)), held(2, by(8), 3)}
	s := l.shelf(t)
	for _, roots := range [][]api.Path{nil, numbers(1), numbers(2), numbers(1, 9), {{}}} {
		for _, who := range append(noHolders, 1, 8) {
			wantNeeded(t, "no shelf", nil, who, roots, nil, api.ErrNil)
			wantMade(t, "no shelf", nil, who, roots, sweep.Plan{}, api.ErrNil)
			wantDone(t, "no shelf", nil, who, roots, sweep.Plan{}, api.ErrNil)
		}
		for _, who := range noHolders {
			l.wantNone(t, "no holder", s, who, roots, api.ErrArg)
			plain{}.wantNone(t, "an empty shelf", &cas.Shelf{}, who, roots, api.ErrArg)
		}
	}
	for who := 1; who <= 7; who++ {
		wantNeeded(t, "a holder", s, who, numbers(1), numbers(1), api.OK)
	}
	wantNeeded(t, "a holder of nothing", &cas.Shelf{}, 8, nil, nil, api.OK)
}

// P15.1, P15.2: ErrRefs, unless all roots are held, by the holder itself.
func TestRootsNotHeld(t *testing.T) {
	l := plain{held(1, by(1, 2)), held(2, by(1, 2), 1), held(3, by(2), 2), held(4, by(3))}
	s := l.shelf(t)
	for _, c := range []struct {
		who   int
		roots []api.Path
	}{
		{1, numbers(3)},       // another one's
		{1, numbers(4)},       // another one's, which refers to nothing
		{1, numbers(1, 2, 4)}, // behind those that are held
		{1, numbers(4, 2, 1)}, // ahead of them
		{1, numbers(9)},       // not there
		{1, numbers(1, 9, 2)},
		{1, []api.Path{{}}},
		{1, []api.Path{pathOf("m", 0, 1)}},
		{1, []api.Path{pathOf("n", 0, 1, 1)}},
		{1, []api.Path{pathOf("not a name", 0, 1)}},
		{4, numbers(1)},
		{8, numbers(1, 2)},
		{3, numbers(4, 1)},
	} {
		l.wantNone(t, fmt.Sprint(c.who, c.roots), s, c.who, c.roots, api.ErrRefs)
	}
	plain{}.wantNone(t, "an empty shelf", &cas.Shelf{}, 1, numbers(1), api.ErrRefs)
}

// P15.1, P15.2: ErrRefs, unless what is held is whole, though the roots' closure is.
func TestHeldNotWhole(t *testing.T) {
	l := plain{held(1, by(1, 2, 3, 4)), held(2, by(1, 2), 1), held(3, by(1), 9), held(4, by(2, 3), 5), held(5, by(4))}
	s := l.shelf(t)
	for _, roots := range [][]api.Path{nil, numbers(1), numbers(2), numbers(2, 1), numbers(3)} {
		l.wantNone(t, "not there", s, 1, roots, api.ErrRefs)
	}
	for _, roots := range [][]api.Path{nil, numbers(1), numbers(2), numbers(4)} {
		l.wantNone(t, "another one's", s, 2, roots, api.ErrRefs)
	}
	// It comes ahead of a ring.
	l = plain{held(1, by(1, 2), 2), held(2, by(1, 2), 1), held(3, by(1), 4), held(4, by(2))}
	s = l.shelf(t)
	l.wantNone(t, "a ring", s, 1, nil, api.ErrRefs)
	l.wantNone(t, "a ring", s, 1, numbers(1), api.ErrRefs)
	wantMade(t, "a ring", s, 2, nil, sweep.Plan{}, api.ErrShape)
	// What others hold may be whatever it is.
	l = plain{held(1, by(1)), held(2, by(2), 1), held(3, by(3), 9), held(4, by(4), 5), held(5, by(4), 4)}
	l.wantAlike(t, "others", l.shelf(t), 1, numbers(1))
	l.wantAlike(t, "others", l.shelf(t), 1, nil)
}

// chain are so many from number 0 on, of which each but the last one refers to the next.
func chain(many int, holders ...int) plain {
	var l plain
	for i := range many - 1 {
		l = append(l, held(i, holders, i+1))
	}
	l = append(l, held(many-1, holders))
	for i := range l {
		l[i].Size = i % 5
	}
	return l
}

// P15.1, P15.2: a shelf of 2000 objects, and of one more, which is no graph (ErrArg, ahead of ErrRefs).
func TestMostObjects(t *testing.T) {
	l := chain(2000, 1)
	s := l.shelf(t)
	var all []api.Path
	for _, x := range l {
		all = append(all, x.Path)
	}
	wantNeeded(t, "2000", s, 1, numbers(0), all, api.OK)
	wantNeeded(t, "2000", s, 1, numbers(1998), all[1998:], api.OK)
	wantMade(t, "2000", s, 1, nil, sweep.Plan{Idle: all, Gone: all, Objects: 2000, Bytes: 4000, Freed: 4000}, api.OK)
	more := held(3000, by(2))
	wantError(t, "Add", s.Add(more.Object, 2, runOf(more.Path)), api.OK)
	wantWhole(t, "2001", s, 1, true)
	for _, who := range []int{1, 2, 3} {
		for _, roots := range [][]api.Path{nil, numbers(1999), numbers(3000), numbers(9999)} {
			append(l, more).wantNone(t, "2001", s, who, roots, api.ErrArg)
		}
	}
	_, e := s.Let(more.Path, 2)
	wantError(t, "Let", e, api.OK)
	wantDone(t, "2000", s, 1, numbers(1000), sweep.Plan{Idle: all[:1000], Gone: all[:1000], Objects: 1000, Bytes: 2000, Freed: 2000}, api.OK)
	l[1000:].wantShelf(t, "1000", s)
}
