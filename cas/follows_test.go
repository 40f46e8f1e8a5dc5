package cas_test

import (
	"fmt"
	"math/rand"
	"slices"
	"testing"

	"spence/api"
	"spence/cas"
)

// someWho is a holder, or, now and then, none.
func someWho(r *rand.Rand) int {
	if r.Intn(20) == 0 {
		return noHolders[r.Intn(len(noHolders))]
	}
	return 1 + r.Intn(8)
}

// P12.1 to P12.3: rows of calls by chance, held against the chapter's words.
func TestByChance(t *testing.T) {
	r := rand.New(rand.NewSource(31))
	tells := map[string]int{}
	for range 100 {
		s, p := &cas.Shelf{}, &plain{}
		paths := somePaths()[:1+r.Intn(7)]
		for range 60 {
			path, who, runs := paths[r.Intn(len(paths))], someWho(r), someRuns(r)
			what, e, we := "", api.OK, api.OK
			switch r.Intn(7) {
			case 0, 1:
				o := someObject(r, paths...)
				what, e, we = fmt.Sprint("Add ", o), s.Add(o, who, runs...), p.add(o, who, runs...)
				tells[fmt.Sprint("Add ", we)]++
			case 2:
				what, e, we = "Hold", s.Hold(path, who), p.hold(path, who)
				tells[fmt.Sprint("Hold ", we)]++
			case 3:
				what, e, we = "Move", s.Move(path, runs...), p.move(path, runs...)
				tells[fmt.Sprint("Move ", we)]++
			default:
				var gone, w bool
				gone, e = s.Let(path, who)
				w, we = p.let(path, who)
				what = fmt.Sprint("Let ", gone)
				if gone != w {
					t.Errorf("Let(%v, %d): %v, not %v", path, who, gone, w)
				}
				tells[fmt.Sprint("Let ", we, w)]++
			}
			what = fmt.Sprint(what, path, who)
			wantError(t, what, e, we)
			p.wantAlike(t, what, s, somePaths()...)
			if t.Failed() {
				t.FailNow()
			}
		}
	}
	for _, k := range []string{"Add 0", "Add 2", "Add 14", "Hold 0", "Hold 2", "Hold 5", "Move 0", "Move 5", "Let 0 false", "Let 0 true", "Let 2 false", "Let 5 false"} {
		if tells[k] < 10 {
			t.Errorf("%s: told %d times, of %v", k, tells[k], tells)
		}
	}
}

// P12.5: an object is there just as long as somebody holds it.
func TestThereAsLongAsHeld(t *testing.T) {
	r := rand.New(rand.NewSource(32))
	for range 100 {
		var s cas.Shelf
		paths := somePaths()
		for range 60 {
			path, who := paths[r.Intn(len(paths))], 1+r.Intn(8)
			if r.Intn(3) == 0 {
				s.Add(objectOf(path, 10), who)
			} else {
				s.Let(path, who)
			}
			for _, p := range paths {
				held := false
				for who := 1; who <= 8; who++ {
					held = held || s.Has(p, who) && slices.Contains(s.Of(who), p)
				}
				x, e := s.Find(p)
				if held != (e == api.OK) || held != slices.Contains(s.Of(0), p) || held != (len(x.Holders) > 0) {
					t.Fatalf("%v: %v, %v, %d", p, held, x, e)
				}
			}
		}
	}
}

// P12.5: what a holder holds, and its sizes, are those of a shelf where it alone calls. Of Hold that can be said only where there is an object: it stands for an Add of it.
func TestHangsOnOwnCallsAlone(t *testing.T) {
	r := rand.New(rand.NewSource(33))
	paths := somePaths()
	for range 100 {
		var s cas.Shelf
		var own [9]cas.Shelf
		for range 80 {
			path, who, runs := paths[r.Intn(len(paths))], 1+r.Intn(8), someRuns(r)
			// Of each path there is one object: no Add tells ErrHash.
			o := objectOf(path, int(path.Hash[0])+10, pathOf("r", path.Hash[0], 77))
			switch r.Intn(5) {
			case 0, 1:
				wantError(t, "Add", s.Add(o, who, runs...), own[who].Add(o, who))
			case 2:
				if s.Hold(path, who) == api.OK {
					wantError(t, "Hold", own[who].Add(o, who), api.OK)
				}
			case 3:
				s.Move(path, runs...)
			case 4:
				_, e := s.Let(path, who)
				_, w := own[who].Let(path, who)
				wantError(t, "Let", e, w)
			}
			for who := 1; who <= 8; who++ {
				what := fmt.Sprint("of ", who)
				wantList(t, what, s.Of(who), own[who].Of(who))
				objects, many := own[who].Sizes(who)
				wantSizes(t, what, &s, who, objects, many)
			}
			if t.Failed() {
				t.FailNow()
			}
		}
	}
}

// R3: no argument is changed, or kept.
func TestKeepsNoArgument(t *testing.T) {
	var s cas.Shelf
	refs := []api.Path{pathOf("r", 2), pathOf("s", 2)}
	runs := runsOf(5, 1, 1, 2)
	o := objectOf(pathOf("a", 1), 10, refs...)
	w := with(o, func(*api.Object) {})
	wantError(t, "Add", s.Add(o, 1, runs...), api.OK)
	wantError(t, "Add", s.Add(o, 2, runs...), api.OK)
	wantList(t, "the refs", o.Refs, w.Refs)
	wantList(t, "the runs", runs, runsOf(5, 1, 1, 2))
	clear(o.Refs)
	clear(runs)
	wantItem(t, "added", &s, w, runsOf(5, 1, 1, 2), 1, 2)
	runs = append(make([]api.Run, 0, 9), runsOf(8, 1, 9, 1)...)
	wantError(t, "Move", s.Move(w.Path, runs...), api.OK)
	wantList(t, "the runs", runs, runsOf(8, 1, 9, 1))
	clear(runs[:9])
	wantItem(t, "moved", &s, w, runsOf(8, 1, 9, 1), 1, 2)
}

// spoil makes all of an item otherwise, what its lists have room for, too.
func spoil(x cas.Item) {
	clear(x.Object.Refs[:cap(x.Object.Refs)])
	clear(x.Runs[:cap(x.Runs)])
	clear(x.Holders[:cap(x.Holders)])
}

// R3, R4: what is told is new memory, and it is told again.
func TestSharesNothing(t *testing.T) {
	s, p := &cas.Shelf{}, &plain{}
	paths := somePaths()
	for i, path := range paths {
		o := objectOf(path, 10+i, pathOf("r", path.Hash[0], 77), pathOf("s", path.Hash[0], 77))
		for who := 1; who <= 8; who += 1 + i {
			wantError(t, "Add", s.Add(o, who, runsOf(i, 1, 50+i, 1)...), p.add(o, who, runsOf(i, 1, 50+i, 1)...))
		}
	}
	for range 3 {
		for _, path := range paths {
			x, _ := s.Find(path)
			y, _ := s.Find(path)
			spoil(x)
			w, _ := p.find(path)
			if !sameItem(y, w) {
				t.Errorf("%v: %v, not %v", path, y, w)
			}
		}
		l, runs := s.Of(0), s.Runs()
		for who := range 9 {
			l := s.Of(who)
			clear(l[:cap(l)])
		}
		more := s.Runs()
		clear(more[:cap(more)])
		wantList(t, "paths told ahead", l, p.of(0))
		wantList(t, "runs told ahead", runs, p.runs())
		p.wantAlike(t, "told again", s, paths...)
	}
	// One object's runs alone are all of them.
	var one cas.Shelf
	wantError(t, "Add", one.Add(objectOf(paths[0], 1), 1, runsOf(1, 1)...), api.OK)
	one.Runs()[0].At = 9
	wantList(t, "one's runs", one.Runs(), runsOf(1, 1))
}

// R4: shelves to which calls came in another order tell the same.
func TestWhateverOrder(t *testing.T) {
	r := rand.New(rand.NewSource(34))
	p := &plain{}
	var all []api.Path
	for i := range 120 {
		path := pathOf("n", byte(i*37), byte(i))
		all = append(all, path)
		p.add(objectOf(path, i), 1+i%8, runsOf(i, 1, 200-i, 3)...)
	}
	for range 10 {
		var s cas.Shelf
		for _, i := range r.Perm(len(all)) {
			wantError(t, "Add", s.Add(objectOf(all[i], i), 1+i%8, runsOf(i, 1, 200-i, 3)...), api.OK)
		}
		p.wantAlike(t, "by chance", &s, all...)
	}
}

// P12.5: one shelf's calls are no other one's.
func TestShelvesApart(t *testing.T) {
	var a, b cas.Shelf
	o := objectOf(pathOf("a", 1), 10)
	wantError(t, "Add", a.Add(o, 1, runsOf(1, 1)...), api.OK)
	(&plain{}).wantAlike(t, "the other one", &b, o.Path)
	wantError(t, "Add", b.Add(objectOf(o.Path, 11), 2), api.OK)
	wantItem(t, "the one", &a, o, runsOf(1, 1), 1)
	wantLet(t, "the other one", &b, o.Path, 2, true, api.OK)
	wantItem(t, "the one", &a, o, runsOf(1, 1), 1)
}
