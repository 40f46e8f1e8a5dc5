package cas_test

import (
	"fmt"
	"math/rand"
	"slices"
	"testing"

	"spence/api"
	"spence/cas"
)

// P12.3: an item's holders rise, in whatever order they came.
func TestFindHolders(t *testing.T) {
	o := objectOf(pathOf("a", 1), 10)
	r := rand.New(rand.NewSource(21))
	for range 300 {
		var s cas.Shelf
		l := r.Perm(8)[:1+r.Intn(8)]
		for i := range l {
			l[i]++
			wantError(t, "Add", s.Add(o, l[i]), api.OK)
		}
		slices.Sort(l)
		wantItem(t, fmt.Sprint(l), &s, o, nil, l...)
	}
}

// P12.3: who has what.
func TestHas(t *testing.T) {
	var s cas.Shelf
	a, b := objectOf(pathOf("a", 1), 10), objectOf(pathOf("b", 1), 20)
	wantError(t, "a", s.Add(a, 1), api.OK)
	wantError(t, "a", s.Add(a, 8), api.OK)
	wantError(t, "b", s.Add(b, 4), api.OK)
	for who := 1; who <= 8; who++ {
		if s.Has(a.Path, who) != (who == 1 || who == 8) || s.Has(b.Path, who) != (who == 4) {
			t.Errorf("%d: %v, %v", who, s.Has(a.Path, who), s.Has(b.Path, who))
		}
		for _, p := range []api.Path{pathOf("c", 1), pathOf("a", 2), {}} {
			if s.Has(p, who) {
				t.Errorf("%d has %v", who, p)
			}
		}
	}
	for _, who := range noHolders {
		if s.Has(a.Path, who) || s.Has(b.Path, who) {
			t.Errorf("%d has", who)
		}
	}
}

// P12.3: paths are told in order, by their hashes' bytes, then by their names' bytes, of who holds them, of 0 all.
func TestOf(t *testing.T) {
	w := []api.Path{pathOf("z"), pathOf("a", 0, 1), pathOf("+", 1), pathOf("-", 1), pathOf("0", 1), pathOf("A", 1), pathOf("Z", 1), pathOf("_", 1), pathOf("a", 1), pathOf("a.", 1), pathOf("aa", 1), pathOf("b", 1), pathOf("a", 1, 0, 1), pathOf("a", 32), pathOf("a", 128), pathOf("a", 255)}
	r := rand.New(rand.NewSource(22))
	for range 50 {
		var s cas.Shelf
		for _, i := range r.Perm(len(w)) {
			wantError(t, "Add", s.Add(objectOf(w[i], i), 1+i%3, runsOf(i, 1, 100-i, 2)...), api.OK)
		}
		wantList(t, "all", s.Of(0), w)
		for who := 1; who <= 3; who++ {
			var l []api.Path
			for i := who - 1; i < len(w); i += 3 {
				l = append(l, w[i])
			}
			wantList(t, fmt.Sprint(who), s.Of(who), l)
		}
		for _, who := range append([]int{4, 5, 6, 7, 8}, noHolders[1:]...) {
			wantList(t, fmt.Sprint(who), s.Of(who), nil)
			wantSizes(t, fmt.Sprint(who), &s, who, 0, 0)
		}
		var runs []api.Run
		for i := range w {
			runs = append(runs, runsOf(i, 1, 100-i, 2)...)
		}
		wantList(t, "runs", s.Runs(), runs)
	}
}

// P12.3: runs are told by the order of their objects' paths, each object's in its order, each time, whoever holds them.
func TestRuns(t *testing.T) {
	var s cas.Shelf
	a, b, c := objectOf(pathOf("b", 1), 1), objectOf(pathOf("c", 1), 1), objectOf(pathOf("a", 2), 1)
	wantError(t, "c", s.Add(c, 1, runsOf(0, 1)...), api.OK)
	wantError(t, "b", s.Add(b, 2), api.OK)
	wantError(t, "a", s.Add(a, 1, runsOf(9, 2, 3, 1, 9, 2)...), api.OK)
	wantError(t, "a", s.Add(a, 2, runsOf(7, 7)...), api.OK)
	wantList(t, "two's", s.Runs(), runsOf(9, 2, 3, 1, 9, 2, 0, 1))
	wantError(t, "Move", s.Move(b.Path, runsOf(5, 1, 4, 1)...), api.OK)
	wantList(t, "three's", s.Runs(), runsOf(9, 2, 3, 1, 9, 2, 5, 1, 4, 1, 0, 1))
	wantLet(t, "a", &s, a.Path, 1, false, api.OK)
	wantList(t, "held by another one", s.Runs(), runsOf(9, 2, 3, 1, 9, 2, 5, 1, 4, 1, 0, 1))
	wantLet(t, "a", &s, a.Path, 2, true, api.OK)
	wantList(t, "gone", s.Runs(), runsOf(5, 1, 4, 1, 0, 1))
	wantError(t, "Move", s.Move(c.Path), api.OK)
	wantLet(t, "b", &s, b.Path, 2, true, api.OK)
	wantList(t, "none", s.Runs(), nil)
}

// P12.3: objects that many hold count in full for each of them, and once for all.
func TestSizes(t *testing.T) {
	var s cas.Shelf
	for i := range 300 {
		o := objectOf(pathOf("a", byte(i), byte(i/256)), 4096-i)
		wantError(t, "Add", s.Add(o, 1), api.OK)
		if i%2 == 0 {
			wantError(t, "Add", s.Add(o, 8), api.OK)
		}
		if i%3 == 0 {
			wantError(t, "Hold", s.Hold(o.Path, 5), api.OK)
		}
	}
	all := 300*4096 - 299*150
	wantSizes(t, "all", &s, 0, 300, all)
	wantSizes(t, "1", &s, 1, 300, all)
	wantSizes(t, "8", &s, 8, 150, 150*4096-149*150)
	wantSizes(t, "5", &s, 5, 100, 100*4096-3*99*50)
	wantSizes(t, "2", &s, 2, 0, 0)
	wantError(t, "an empty one", s.Add(objectOf(pathOf("e"), 0), 2), api.OK)
	wantSizes(t, "2, of an empty one", &s, 2, 1, 0)
	wantSizes(t, "all", &s, 0, 301, all)
	wantLet(t, "1", &s, pathOf("a"), 1, false, api.OK)
	wantSizes(t, "1, of one less", &s, 1, 299, all-4096)
	wantSizes(t, "all, of as many", &s, 0, 301, all)
	wantLet(t, "1", &s, pathOf("a", 1), 1, true, api.OK)
	wantSizes(t, "all, of one less", &s, 0, 300, all-4095)
}

// P12.4: of no shelf.
func TestNoShelf(t *testing.T) {
	var s *cas.Shelf
	o := objectOf(pathOf("a", 1), 10)
	for _, who := range append([]int{1, 8}, noHolders...) {
		wantError(t, "Add", s.Add(o, who, runsOf(1, 1)...), api.ErrNil)
		wantError(t, "Add of none", s.Add(api.Object{}, who), api.ErrNil)
		wantError(t, "Hold", s.Hold(o.Path, who), api.ErrNil)
		wantError(t, "Hold of none", s.Hold(api.Path{}, who), api.ErrNil)
		wantLet(t, "Let", s, o.Path, who, false, api.ErrNil)
		wantList(t, "Of", s.Of(who), nil)
		wantSizes(t, "Sizes", s, who, 0, 0)
	}
	wantError(t, "Move", s.Move(o.Path, runsOf(1, 1)...), api.ErrNil)
	wantNothing(t, "Find", s, o.Path, api.ErrNil)
	wantNothing(t, "Find of none", s, api.Path{}, api.ErrNil)
	wantList(t, "Runs", s.Runs(), nil)
}

// P12.1 to P12.3: where several errors apply, the first one is told.
func TestErrorsInOrder(t *testing.T) {
	var s cas.Shelf
	a := objectOf(pathOf("a", 1), 10)
	wantError(t, "Add", s.Add(a, 1), api.OK)
	wantError(t, "no holder, another one", s.Add(objectOf(a.Path, 11), 9), api.ErrArg)
	wantError(t, "not right, another one", s.Add(objectOf(a.Path, 5000), 1), api.ErrArg)
	wantError(t, "another one", s.Add(objectOf(a.Path, 11), 1), api.ErrHash)
	wantError(t, "no holder, none", s.Hold(pathOf("b", 1), 0), api.ErrArg)
	wantError(t, "none", s.Hold(pathOf("b", 1), 1), api.ErrNone)
	wantLet(t, "no holder, none", &s, pathOf("b", 1), 9, false, api.ErrArg)
	wantLet(t, "none", &s, pathOf("b", 1), 1, false, api.ErrNone)
	wantItem(t, "a", &s, a, nil, 1)
}
