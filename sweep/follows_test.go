package sweep_test

import (
	"fmt"
	"math/rand"
	"slices"
	"testing"

	"spence/api"
	"spence/cas"
	"spence/sweep"
)

// somePaths are few: some are of one hash, some of one name.
func somePaths() []api.Path {
	return []api.Path{pathOf("b", 2), pathOf("a", 2), pathOf("a", 1, 9), pathOf("c"), pathOf("a", 255), pathOf("B", 2), pathOf("a", 0, 3), pathOf("d", 7), pathOf("d", 8)}
}

// someThings are of these paths, each of which refers to some of them, to such of other hashes; where no ring may be, to those ahead of it alone. Each is held by some; where all must be whole, those hold what it refers to, too.
func someThings(r *rand.Rand, ring, whole bool) plain {
	paths := shuffled(r, somePaths())
	var l plain
	for i, p := range paths {
		var refs []api.Path
		for k, q := range paths {
			if q.Hash != p.Hash && (ring || k < i) && r.Intn(4) == 0 {
				refs = append(refs, q)
			}
		}
		x := thing{api.Object{Path: p, Size: r.Intn(4097), Refs: plainSorted(refs), Self: r.Intn(2) == 0}, nil}
		for who := 1; who <= 8; who++ {
			if who < 4 && r.Intn(2) == 0 || who == 8 && r.Intn(5) == 0 {
				x.holders = append(x.holders, who)
			}
		}
		l = append(l, x)
	}
	if whole {
		for who := 1; who <= 8; who++ {
			for _, p := range l.closure(l.of(who)) {
				i := slices.IndexFunc(l, func(x thing) bool { return x.Path == p })
				if !slices.Contains(l[i].holders, who) {
					l[i].holders = append(l[i].holders, who)
				}
			}
		}
	}
	return shuffled(r, slices.DeleteFunc(l, func(x thing) bool { return len(x.holders) == 0 }))
}

// someRoots are a few of those that a holder holds, now and then one of all.
func someRoots(r *rand.Rand, own []api.Path) []api.Path {
	var l []api.Path
	for range r.Intn(4) {
		if len(own) > 0 {
			l = append(l, own[r.Intn(len(own))])
		}
	}
	if r.Intn(12) == 0 {
		l = append(l, somePaths()[r.Intn(9)])
	}
	return l
}

// P15.1, P15.2: shelves by chance, held against the chapter's words.
func TestByChance(t *testing.T) {
	r := rand.New(rand.NewSource(53))
	tells := map[string]int{}
	for range 4000 {
		l := someThings(r, r.Intn(3) == 0, r.Intn(4) > 0)
		s := l.shelf(t)
		for range 3 {
			who := []int{1, 2, 3, 8, 4 + r.Intn(4), r.Intn(12) - 1}[r.Intn(6)]
			roots := someRoots(r, l.of(who))
			plan, e := l.made(who, roots)
			tells[fmt.Sprint("Made ", e, len(plan.Idle) > 2, len(plan.Gone) > 0 && len(plan.Gone) < len(plan.Idle))]++
			tells[fmt.Sprint("Whole ", l.whole(who))]++
			l = l.wantAlike(t, fmt.Sprint(l, " of ", who, " by ", roots), s, who, roots)
			if t.Failed() {
				t.FailNow()
			}
		}
	}
	for _, k := range []string{"Made 0 false false", "Made 0 true false", "Made 0 true true", "Made 0 false true", "Made 2 false false", "Made 4 false false", "Made 17 false false", "Whole true", "Whole false"} {
		if tells[k] < 100 {
			t.Errorf("%s: told %d times, of %v", k, tells[k], tells)
		}
	}
}

// P15.3: behind Do a holder holds just what is needed, and that is whole; others hold what they held, and it is there. Done again it does nothing.
func TestWhatFollows(t *testing.T) {
	r := rand.New(rand.NewSource(54))
	done := 0
	for range 3000 {
		s := someThings(r, r.Intn(4) == 0, true).shelf(t)
		who := 1 + r.Intn(3)
		roots := someRoots(r, s.Of(who))
		needed, _ := sweep.Needed(s, who, roots...)
		var had [9][]api.Path
		var has [9]int
		for other := range had {
			had[other] = s.Of(other)
			_, has[other] = s.Sizes(other)
		}
		p, e := sweep.Do(s, who, roots...)
		if e != api.OK {
			continue
		}
		done++
		wantPaths(t, "of it", s.Of(who), needed)
		wantWhole(t, "of it", s, who, true)
		for other := 1; other <= 8; other++ {
			if other == who {
				continue
			}
			wantPaths(t, "of others", s.Of(other), had[other])
			for _, path := range had[other] {
				if x, e := s.Find(path); e != api.OK || x.Object.Path != path || !slices.Contains(x.Holders, other) || slices.Contains(p.Gone, path) {
					t.Errorf("%v is gone", path)
				}
			}
		}
		if many, size := s.Sizes(who); len(had[who])-many != p.Objects || has[who]-size != p.Bytes {
			t.Errorf("%v: %d objects, %d bytes are left", p, many, size)
		}
		if many, size := s.Sizes(0); len(had[0])-many != len(p.Gone) || has[0]-size != p.Freed {
			t.Errorf("%v: %d objects, %d bytes of all are left", p, many, size)
		}
		wantMade(t, "again", s, who, roots, sweep.Plan{}, api.OK)
		left := s.Of(0)
		wantDone(t, "again", s, who, roots, sweep.Plan{}, api.OK)
		wantPaths(t, "again", s.Of(0), left)
		wantNeeded(t, "again", s, who, roots, needed, api.OK)
		if t.Failed() {
			t.FailNow()
		}
	}
	if done < 1500 {
		t.Errorf("%d plans were done", done)
	}
}

// P15.2: as one who lets them go in the plan's order, a holder stays whole at each step.
func TestWholeAtEachStep(t *testing.T) {
	r := rand.New(rand.NewSource(55))
	long := 0
	for range 1000 {
		s := someThings(r, r.Intn(4) == 0, true).shelf(t)
		p, e := sweep.Made(s, 1, someRoots(r, s.Of(1))...)
		if e != api.OK {
			continue
		}
		for _, path := range p.Idle {
			gone, e := s.Let(path, 1)
			if e != api.OK || gone != slices.Contains(p.Gone, path) || !sweep.Whole(s, 1) {
				t.Fatalf("%v: %v: %v, error %d", p, path, gone, e)
			}
		}
		if len(p.Idle) > 3 {
			long++
		}
	}
	if long < 100 {
		t.Errorf("%d plans had more than three paths", long)
	}
}

// R3: no roots are changed, or kept.
func TestChangesNoRoots(t *testing.T) {
	l, _, b, c, d := example()
	roots := append(make([]api.Path, 0, 9), d, c, b, c)
	was := slices.Clone(roots)
	s := l.shelf(t)
	sweep.Needed(s, 1, roots...)
	sweep.Made(s, 1, roots...)
	sweep.Do(s, 1, roots...)
	wantPaths(t, "roots", roots, was)
	wantPaths(t, "behind roots", roots[len(roots):cap(roots)], make([]api.Path, 5))
	first, _ := sweep.Needed(s, 1, roots...)
	clear(roots)
	wantPaths(t, "told ahead", first, s.Of(1))
}

// R3, R4: what is told is new memory, and it is told again, whatever is made of it.
func TestSharesNothing(t *testing.T) {
	l, a, b, c, d := example()
	s := l.shelf(t)
	w := sweep.Plan{Idle: []api.Path{d, c, b, a}, Gone: []api.Path{d, c, b}, Objects: 4, Bytes: 15, Freed: 14}
	for range 3 {
		one, _ := sweep.Needed(s, 1, c, d)
		two, _ := sweep.Needed(s, 1, c, d)
		clear(one[:cap(one)])
		wantPaths(t, "needed", two, []api.Path{a, b, c, d})
		p, _ := sweep.Made(s, 1)
		q, _ := sweep.Made(s, 1)
		clear(p.Idle[:cap(p.Idle)])
		wantPlan(t, "made ahead", q, w)
		wantPaths(t, "gone", p.Gone, w.Gone)
		clear(p.Gone[:cap(p.Gone)])
		wantPlan(t, "made ahead", q, w)
		l.wantShelf(t, "told", s)
	}
	p, _ := sweep.Do(s, 1, c)
	clear(p.Idle)
	clear(p.Gone)
	l.without(1, []api.Path{a, d}).wantShelf(t, "done", s)
	// Where all that is idle is gone, too, the lists are two all the same.
	all := plain{held(1, by(1)), held(2, by(1))}
	p, _ = sweep.Made(all.shelf(t), 1)
	clear(p.Idle[:cap(p.Idle)])
	wantPaths(t, "gone", p.Gone, numbers(2, 1))
}

// R6: what has no elements is nil, or as good as that; nothing is told of a holder of nothing.
func TestNothing(t *testing.T) {
	l, _, _, _, _ := example()
	for _, s := range []*cas.Shelf{{}, l.shelf(t)} {
		for who := 3; who <= 8; who++ {
			for _, roots := range [][]api.Path{nil, {}} {
				wantNeeded(t, "nothing", s, who, roots, nil, api.OK)
				wantMade(t, "nothing", s, who, roots, sweep.Plan{}, api.OK)
				wantDone(t, "nothing", s, who, roots, sweep.Plan{}, api.OK)
			}
		}
	}
}
