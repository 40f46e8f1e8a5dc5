package cas_test

import (
	"fmt"
	"testing"

	"spence/api"
	"spence/cas"
)

// P12.2: the chapter's example: 1 adds an object, 2 holds it, 1 lets it go, 2 lets it go.
func TestLet(t *testing.T) {
	var s cas.Shelf
	o := objectOf(pathOf("a", 1), 10)
	wantError(t, "Add", s.Add(o, 1, runsOf(5, 1)...), api.OK)
	wantError(t, "Hold", s.Hold(o.Path, 2), api.OK)
	wantLet(t, "1", &s, o.Path, 1, false, api.OK)
	wantItem(t, "of 2", &s, o, runsOf(5, 1), 2)
	wantLet(t, "1 again", &s, o.Path, 1, false, api.ErrNone)
	wantLet(t, "2", &s, o.Path, 2, true, api.OK)
	wantNothing(t, "gone", &s, o.Path, api.ErrNone)
	(&plain{}).wantAlike(t, "gone", &s, o.Path)
	wantLet(t, "2 again", &s, o.Path, 2, false, api.ErrNone)
}

// P12.2: who does not hold one lets none go: ErrNone, and those who hold it do so on.
func TestLetOfNone(t *testing.T) {
	s, p := &cas.Shelf{}, &plain{}
	a, b := objectOf(pathOf("a", 1), 10), objectOf(pathOf("b", 1), 20)
	wantError(t, "a", s.Add(a, 3), p.add(a, 3))
	wantError(t, "b", s.Add(b, 5), p.add(b, 5))
	for who := 1; who <= 8; who++ {
		for _, path := range []api.Path{a.Path, b.Path, pathOf("c", 1), pathOf("a", 2), pathOf("", 1), {}} {
			if path == a.Path && who == 3 || path == b.Path && who == 5 {
				continue
			}
			wantLet(t, fmt.Sprint(who, path), s, path, who, false, api.ErrNone)
		}
	}
	for _, who := range noHolders {
		wantLet(t, fmt.Sprint("by ", who), s, a.Path, who, false, api.ErrArg)
		wantLet(t, fmt.Sprint("of none, by ", who), s, api.Path{}, who, false, api.ErrArg)
	}
	p.wantAlike(t, "behind", s, a.Path, b.Path)
}

// P12.2: all orders in which some let go: it is gone with the last of them, and not ahead.
func TestLetInAllOrders(t *testing.T) {
	o := objectOf(pathOf("a", 1), 10)
	for bits := 1; bits < 256; bits++ {
		for turn := range 8 {
			s, p := &cas.Shelf{}, &plain{}
			for who := 1; who <= 8; who++ {
				if bits>>(who-1)&1 == 1 {
					wantError(t, "Add", s.Add(o, who), p.add(o, who))
				}
			}
			for i := range 8 {
				who := 1 + (i*3+turn)%8
				w, we := p.let(o.Path, who)
				wantLet(t, fmt.Sprintf("%b, %d", bits, who), s, o.Path, who, w, we)
				if s.Has(o.Path, who) || len(s.Of(0)) != len(p.items) {
					t.Fatalf("%b, %d: %v", bits, who, s.Of(0))
				}
			}
			if len(s.Of(0)) != 0 {
				t.Fatalf("%b: %v", bits, s.Of(0))
			}
		}
	}
}

// P12.2: what is gone leaves nothing: another one of its path may come, and lies where that one is said to lie.
func TestAddBehindGone(t *testing.T) {
	var s cas.Shelf
	o, another := objectOf(pathOf("a", 1), 10, pathOf("r", 2)), objectOf(pathOf("a", 1), 11)
	wantError(t, "Add", s.Add(o, 1, runsOf(5, 1)...), api.OK)
	wantError(t, "Add", s.Add(o, 2), api.OK)
	wantLet(t, "1", &s, o.Path, 1, false, api.OK)
	wantError(t, "another one", s.Add(another, 1, runsOf(6, 1)...), api.ErrHash)
	wantLet(t, "2", &s, o.Path, 2, true, api.OK)
	wantError(t, "another one", s.Add(another, 3, runsOf(6, 1)...), api.OK)
	wantItem(t, "another one", &s, another, runsOf(6, 1), 3)
	wantError(t, "the one that was", s.Add(o, 1), api.ErrHash)
	wantLet(t, "3", &s, o.Path, 3, true, api.OK)
	wantError(t, "the one that was", s.Add(o, 4), api.OK)
	wantItem(t, "the one that was", &s, o, nil, 4)
}

// P12.2: who lets go may hold again what others hold.
func TestHoldAgain(t *testing.T) {
	var s cas.Shelf
	o := objectOf(pathOf("a", 1), 10)
	wantError(t, "Add", s.Add(o, 1), api.OK)
	wantError(t, "Add", s.Add(o, 2), api.OK)
	for range 3 {
		wantLet(t, "1", &s, o.Path, 1, false, api.OK)
		wantItem(t, "of 2", &s, o, nil, 2)
		wantSizes(t, "of 1", &s, 1, 0, 0)
		wantError(t, "Hold", s.Hold(o.Path, 1), api.OK)
		wantItem(t, "of both", &s, o, nil, 1, 2)
		wantSizes(t, "of 1", &s, 1, 1, 10)
	}
}

// P12.2: what is moved is of these runs, and all else is as it was.
func TestMove(t *testing.T) {
	s, p := &cas.Shelf{}, &plain{}
	a, b := objectOf(pathOf("a", 1), 10, pathOf("r", 2)), objectOf(pathOf("b", 1), 20)
	wantError(t, "a", s.Add(a, 1, runsOf(5, 1)...), p.add(a, 1, runsOf(5, 1)...))
	wantError(t, "a", s.Add(a, 7), p.add(a, 7))
	wantError(t, "b", s.Add(b, 2, runsOf(6, 1)...), p.add(b, 2, runsOf(6, 1)...))
	for i, runs := range [][]api.Run{runsOf(9, 1), runsOf(1, 2, 0, 1), nil, runsOf(-1, -1), {}, runsOf(6, 1), runsOf(6, 1)} {
		what := fmt.Sprint("runs ", i)
		wantError(t, what, s.Move(a.Path, runs...), p.move(a.Path, runs...))
		wantItem(t, what, s, a, runs, 1, 7)
		p.wantAlike(t, what, s, a.Path, b.Path)
		wantError(t, what, s.Add(a, 3, runsOf(33, 1)...), p.add(a, 3, runsOf(33, 1)...))
		p.wantAlike(t, what+", added", s, a.Path, b.Path)
		wantLet(t, what, s, a.Path, 3, false, api.OK)
		p.let(a.Path, 3)
	}
	for _, path := range []api.Path{pathOf("c", 1), pathOf("a", 2), pathOf("", 1), {}} {
		wantError(t, fmt.Sprint(path), s.Move(path, runsOf(8, 1)...), api.ErrNone)
		wantError(t, fmt.Sprint(path, ", to none"), s.Move(path), api.ErrNone)
		p.wantAlike(t, fmt.Sprint(path), s, a.Path, b.Path, path)
	}
	wantLet(t, "b", s, b.Path, 2, true, api.OK)
	wantError(t, "what is gone", s.Move(b.Path, runsOf(8, 1)...), api.ErrNone)
	wantNothing(t, "what is gone", s, b.Path, api.ErrNone)
}
