package sweep_test

import (
	"bytes"
	"fmt"
	"math"
	"math/rand"
	"slices"
	"strings"
	"testing"

	"spence/api"
	"spence/cas"
	"spence/sweep"
)

// noHolders are numbers that are none, 0 among them, of whom a shelf tells all that is there.
var noHolders = []int{0, -1, -8, 9, 10, 64, 65, 257, 1<<32 + 1, math.MinInt, math.MinInt + 1, math.MaxInt}

// pathOf is a path of a hash with these first bytes.
func pathOf(name string, first ...byte) api.Path {
	p := api.Path{Name: name}
	copy(p.Hash[:], first)
	return p
}

// numbered is the path of a number; the greater the number, the further behind.
func numbered(i int) api.Path {
	return pathOf("n", byte(i>>8), byte(i))
}

// numbers are the paths of numbers.
func numbers(l ...int) []api.Path {
	var paths []api.Path
	for _, i := range l {
		paths = append(paths, numbered(i))
	}
	return paths
}

// thing is an object, and who holds it.
type thing struct {
	api.Object
	holders []int
}

// held is a thing of a number, whose size it is, and which refers to those of others.
func held(i int, holders []int, of ...int) thing {
	return thing{api.Object{Path: numbered(i), Size: i, Refs: numbers(of...)}, holders}
}

// by are holders.
func by(l ...int) []int { return l }

// plain is what there is, after the chapter's words; it is in no order.
type plain []thing

// shelf is one with what there is; where a thing lies hangs on its path.
func (l plain) shelf(t *testing.T) *cas.Shelf {
	t.Helper()
	s := &cas.Shelf{}
	for _, x := range l {
		for _, who := range x.holders {
			wantError(t, "Add", s.Add(x.Object, who, runOf(x.Path)), api.OK)
		}
	}
	return s
}

// runOf is where a thing of a path lies.
func runOf(p api.Path) api.Run {
	return api.Run{At: int(p.Hash[0])<<8 + int(p.Hash[1]), Many: len(p.Name)}
}

// at is the thing of a path; of none it is held by nobody.
func (l plain) at(p api.Path) thing {
	for _, x := range l {
		if x.Path == p {
			return x
		}
	}
	return thing{}
}

// has says whether a holder holds a path.
func (l plain) has(p api.Path, who int) bool {
	return slices.Contains(l.at(p).holders, who)
}

// of are the paths that a holder holds, in order.
func (l plain) of(who int) []api.Path {
	var paths []api.Path
	for _, x := range l {
		if slices.Contains(x.holders, who) {
			paths = append(paths, x.Path)
		}
	}
	return plainSorted(paths)
}

// plainSorted are paths in order, each once.
func plainSorted(l []api.Path) []api.Path {
	l = slices.Clone(l)
	slices.SortFunc(l, func(p, q api.Path) int {
		if c := bytes.Compare(p.Hash[:], q.Hash[:]); c != 0 {
			return c
		}
		return strings.Compare(p.Name, q.Name)
	})
	return slices.Compact(l)
}

func (l plain) whole(who int) bool {
	for _, p := range l.of(who) {
		for _, q := range l.at(p).Refs {
			if !l.has(q, who) {
				return false
			}
		}
	}
	return true
}

// closure is that of paths: as long as something in it refers to what is not in it, that is put in.
func (l plain) closure(from []api.Path) []api.Path {
	all := plainSorted(from)
	for {
		more := all
		for _, p := range all {
			more = append(more, l.at(p).Refs...)
		}
		more = plainSorted(more)
		if len(more) == len(all) {
			return all
		}
		all = more
	}
}

func (l plain) needed(who int, roots []api.Path) ([]api.Path, api.Errno) {
	if who < 1 || who > 8 || len(l) > 2000 {
		return nil, api.ErrArg
	}
	for _, p := range roots {
		if !l.has(p, who) {
			return nil, api.ErrRefs
		}
	}
	if !l.whole(who) {
		return nil, api.ErrRefs
	}
	return l.closure(roots), api.OK
}

// order is what is idle, each path behind all idle ones that it refers to, and whether there is no ring.
func (l plain) order(idle []api.Path) ([]api.Path, bool) {
	var told, under []api.Path
	ok := true
	var through func(p api.Path)
	through = func(p api.Path) {
		if slices.Contains(under, p) {
			ok = false
		}
		if !slices.Contains(idle, p) || slices.Contains(told, p) || !ok {
			return
		}
		under = append(under, p)
		for _, q := range l.at(p).Refs {
			through(q)
		}
		under = under[:len(under)-1]
		told = append(told, p)
	}
	for _, p := range idle {
		through(p)
	}
	return told, ok
}

func (l plain) made(who int, roots []api.Path) (sweep.Plan, api.Errno) {
	needed, e := l.needed(who, roots)
	if e != api.OK {
		return sweep.Plan{}, e
	}
	var idle []api.Path
	for _, p := range l.of(who) {
		if !slices.Contains(needed, p) {
			idle = append(idle, p)
		}
	}
	order, ok := l.order(idle)
	if !ok {
		return sweep.Plan{}, api.ErrShape
	}
	var plan sweep.Plan
	for _, p := range slices.Backward(order) {
		x := l.at(p)
		plan.Idle = append(plan.Idle, p)
		plan.Objects++
		plan.Bytes += x.Size
		if slices.Equal(x.holders, []int{who}) {
			plan.Gone = append(plan.Gone, p)
			plan.Freed += x.Size
		}
	}
	return plan, api.OK
}

// without is what there is when a holder has let these paths go.
func (l plain) without(who int, gone []api.Path) plain {
	var left plain
	for _, x := range l {
		if slices.Contains(gone, x.Path) {
			x.holders = slices.DeleteFunc(slices.Clone(x.holders), func(y int) bool { return y == who })
		}
		if len(x.holders) > 0 {
			left = append(left, x)
		}
	}
	return left
}

// wantShelf asks that on a shelf there is just that.
func (l plain) wantShelf(t *testing.T, what string, s *cas.Shelf) {
	t.Helper()
	var all []api.Path
	for who := 1; who <= 8; who++ {
		wantPaths(t, fmt.Sprint(what, ": held by ", who), s.Of(who), l.of(who))
	}
	for _, x := range l {
		all = append(all, x.Path)
		y, e := s.Find(x.Path)
		wantError(t, what+": Find", e, api.OK)
		if o := y.Object; o.Path != x.Path || o.Size != x.Size || o.Self != x.Self || !slices.Equal(o.Refs, x.Refs) || !slices.Equal(y.Runs, []api.Run{runOf(x.Path)}) {
			t.Errorf("%s: %v, not %v", what, y, x)
		}
	}
	wantPaths(t, what+": all", s.Of(0), plainSorted(all))
}

// wantError asks that an error is that.
func wantError(t *testing.T, what string, e, w api.Errno) {
	t.Helper()
	if e != w {
		t.Errorf("%s: error %d, not %d", what, e, w)
	}
}

// wantPaths asks that paths are those.
func wantPaths(t *testing.T, what string, l, w []api.Path) {
	t.Helper()
	if !slices.Equal(l, w) {
		t.Errorf("%s: %v, not %v", what, l, w)
	}
}

// wantPlan asks that a plan is that.
func wantPlan(t *testing.T, what string, p, w sweep.Plan) {
	t.Helper()
	if !slices.Equal(p.Idle, w.Idle) || !slices.Equal(p.Gone, w.Gone) || p.Objects != w.Objects || p.Bytes != w.Bytes || p.Freed != w.Freed {
		t.Errorf("%s: %v, not %v", what, p, w)
	}
}

// wantNeeded asks for what roots need, or an error and nothing beside it.
func wantNeeded(t *testing.T, what string, s *cas.Shelf, who int, roots, w []api.Path, we api.Errno) {
	t.Helper()
	l, e := sweep.Needed(s, who, roots...)
	wantError(t, what+": Needed", e, we)
	wantPaths(t, what+": Needed", l, w)
}

// wantMade asks for a plan, or an error and nothing beside it.
func wantMade(t *testing.T, what string, s *cas.Shelf, who int, roots []api.Path, w sweep.Plan, we api.Errno) {
	t.Helper()
	p, e := sweep.Made(s, who, roots...)
	wantError(t, what+": Made", e, we)
	wantPlan(t, what+": Made", p, w)
}

// wantDone asks that a plan is done, or an error is told and nothing is done.
func wantDone(t *testing.T, what string, s *cas.Shelf, who int, roots []api.Path, w sweep.Plan, we api.Errno) {
	t.Helper()
	p, e := sweep.Do(s, who, roots...)
	wantError(t, what+": Do", e, we)
	wantPlan(t, what+": Do", p, w)
}

// wantNone asks that all calls tell that error, nothing beside it, and leave a shelf as it is.
func (l plain) wantNone(t *testing.T, what string, s *cas.Shelf, who int, roots []api.Path, w api.Errno) {
	t.Helper()
	wantNeeded(t, what, s, who, roots, nil, w)
	wantMade(t, what, s, who, roots, sweep.Plan{}, w)
	wantDone(t, what, s, who, roots, sweep.Plan{}, w)
	l.wantShelf(t, what, s)
}

// wantAlike asks that all calls tell what the plain ones tell, and do what these do; s is a shelf with what there is.
func (l plain) wantAlike(t *testing.T, what string, s *cas.Shelf, who int, roots []api.Path) plain {
	t.Helper()
	for other := -1; other <= 10; other++ {
		if whole := sweep.Whole(s, other); whole != l.whole(other) {
			t.Errorf("%s: Whole of %d: %v", what, other, whole)
		}
	}
	needed, e := l.needed(who, roots)
	wantNeeded(t, what, s, who, roots, needed, e)
	w, e := l.made(who, roots)
	wantMade(t, what, s, who, roots, w, e)
	l.wantShelf(t, what+": made", s)
	wantDone(t, what, s, who, roots, w, e)
	left := l.without(who, w.Idle)
	left.wantShelf(t, what+": done", s)
	return left
}

// shuffled are the same elements in another order.
func shuffled[T any](r *rand.Rand, l []T) []T {
	l = slices.Clone(l)
	r.Shuffle(len(l), func(i, j int) { l[i], l[j] = l[j], l[i] })
	return l
}
