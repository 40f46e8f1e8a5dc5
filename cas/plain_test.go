package cas_test

import (
	"bytes"
	"fmt"
	"math"
	"math/rand"
	"slices"
	"strings"
	"testing"

	"spence/api"
	"spence/cas"
)

// noHolders are numbers that are none, among them such as would be one if their bits were shifted round, or cut.
var noHolders = []int{0, -1, -2, -7, -8, 9, 10, 16, 31, 32, 33, 63, 64, 65, 255, 256, 257, 1<<16 + 1, 1<<32 + 1, -1<<32 + 1, math.MinInt, math.MinInt + 1, math.MaxInt}

// pathOf is a path of a hash with these first bytes.
func pathOf(name string, first ...byte) api.Path {
	p := api.Path{Name: name}
	copy(p.Hash[:], first)
	return p
}

// objectOf is a right object of a path.
func objectOf(p api.Path, size int, of ...api.Path) api.Object {
	return api.Object{Path: p, Size: size, Refs: of}
}

// runsOf are runs of numbers, by twos.
func runsOf(l ...int) []api.Run {
	var runs []api.Run
	for i := 0; i < len(l); i += 2 {
		runs = append(runs, api.Run{At: l[i], Many: l[i+1]})
	}
	return runs
}

// with is an object in which something is made otherwise.
func with(o api.Object, do func(o *api.Object)) api.Object {
	o.Refs = slices.Clone(o.Refs)
	do(&o)
	return o
}

// manyPaths are as many paths, in order.
func manyPaths(many int) []api.Path {
	var l []api.Path
	for i := range many {
		l = append(l, pathOf("r", 100, byte(i/2), byte(i)))
	}
	return l
}

// sameObject says whether objects are one.
func sameObject(a, b api.Object) bool {
	return a.Path == b.Path && a.Size == b.Size && a.Self == b.Self && slices.Equal(a.Refs, b.Refs)
}

// sameItem says whether items are one.
func sameItem(a, b cas.Item) bool {
	return sameObject(a.Object, b.Object) && slices.Equal(a.Runs, b.Runs) && slices.Equal(a.Holders, b.Holders)
}

// wantError asks that an error is that.
func wantError(t *testing.T, what string, e, w api.Errno) {
	t.Helper()
	if e != w {
		t.Errorf("%s: error %d, not %d", what, e, w)
	}
}

// wantLet asks that a Let tells that.
func wantLet(t *testing.T, what string, s *cas.Shelf, p api.Path, who int, w bool, we api.Errno) {
	t.Helper()
	if gone, e := s.Let(p, who); gone != w || e != we {
		t.Errorf("%s: %v, error %d, not %v, %d", what, gone, e, w, we)
	}
}

// wantList asks that a list is that.
func wantList[T comparable](t *testing.T, what string, l, w []T) {
	t.Helper()
	if !slices.Equal(l, w) {
		t.Errorf("%s: %v, not %v", what, l, w)
	}
}

// wantSizes asks that so many objects and bytes are told.
func wantSizes(t *testing.T, what string, s *cas.Shelf, who, objects, many int) {
	t.Helper()
	if o, b := s.Sizes(who); o != objects || b != many {
		t.Errorf("%s: %d objects, %d bytes, not %d, %d", what, o, b, objects, many)
	}
}

// wantItem asks that an item is found.
func wantItem(t *testing.T, what string, s *cas.Shelf, o api.Object, runs []api.Run, holders ...int) {
	t.Helper()
	x, e := s.Find(o.Path)
	wantError(t, what, e, api.OK)
	if w := (cas.Item{Object: o, Runs: runs, Holders: holders}); !sameItem(x, w) {
		t.Errorf("%s: %v, not %v", what, x, w)
	}
}

// wantNothing asks that nothing is told of a path.
func wantNothing(t *testing.T, what string, s *cas.Shelf, p api.Path, w api.Errno) {
	t.Helper()
	x, e := s.Find(p)
	wantError(t, what, e, w)
	if !sameItem(x, cas.Item{}) {
		t.Errorf("%s: %v", what, x)
	}
	for who := -1; who <= 9; who++ {
		if s.Has(p, who) {
			t.Errorf("%s: %d has it", what, who)
		}
	}
}

// plain is a shelf after the chapter's words, one by one: its items are in no order, nor are an item's holders.
type plain struct {
	items []cas.Item
}

// at is where an item of a path is, below 0 where it is not.
func (s *plain) at(p api.Path) int {
	return slices.IndexFunc(s.items, func(x cas.Item) bool { return x.Object.Path == p })
}

// plainRight says whether an object is right, where all names in it are names, or none at all.
func plainRight(o api.Object) bool {
	for i, p := range o.Refs {
		if p.Hash == o.Path.Hash || p.Name == "" || slices.Contains(o.Refs[:i], p) {
			return false
		}
	}
	return o.Path.Name != "" && slices.IsSortedFunc(o.Refs, plainOrder) && len(o.Refs) <= 32 && 0 <= o.Size && o.Size <= 4096
}

// plainOrder is the order of paths.
func plainOrder(p, q api.Path) int {
	if c := bytes.Compare(p.Hash[:], q.Hash[:]); c != 0 {
		return c
	}
	return strings.Compare(p.Name, q.Name)
}

func (s *plain) add(o api.Object, who int, runs ...api.Run) api.Errno {
	if who < 1 || who > 8 || !plainRight(o) {
		return api.ErrArg
	}
	if i := s.at(o.Path); i >= 0 {
		if !sameObject(s.items[i].Object, o) {
			return api.ErrHash
		}
		return s.hold(o.Path, who)
	}
	s.items = append(s.items, cas.Item{Object: o, Runs: runs, Holders: []int{who}})
	return api.OK
}

func (s *plain) hold(p api.Path, who int) api.Errno {
	if who < 1 || who > 8 {
		return api.ErrArg
	}
	i := s.at(p)
	if i < 0 {
		return api.ErrNone
	}
	if !slices.Contains(s.items[i].Holders, who) {
		s.items[i].Holders = append(s.items[i].Holders, who)
	}
	return api.OK
}

func (s *plain) let(p api.Path, who int) (bool, api.Errno) {
	if who < 1 || who > 8 {
		return false, api.ErrArg
	}
	if !s.has(p, who) {
		return false, api.ErrNone
	}
	i := s.at(p)
	s.items[i].Holders = slices.DeleteFunc(s.items[i].Holders, func(x int) bool { return x == who })
	if len(s.items[i].Holders) > 0 {
		return false, api.OK
	}
	s.items = slices.Delete(s.items, i, i+1)
	return true, api.OK
}

func (s *plain) move(p api.Path, runs ...api.Run) api.Errno {
	i := s.at(p)
	if i < 0 {
		return api.ErrNone
	}
	s.items[i].Runs = runs
	return api.OK
}

func (s *plain) find(p api.Path) (cas.Item, api.Errno) {
	i := s.at(p)
	if i < 0 {
		return cas.Item{}, api.ErrNone
	}
	x := s.items[i]
	x.Holders = slices.Sorted(slices.Values(x.Holders))
	return x, api.OK
}

func (s *plain) has(p api.Path, who int) bool {
	i := s.at(p)
	return i >= 0 && slices.Contains(s.items[i].Holders, who)
}

func (s *plain) of(who int) []api.Path {
	var l []api.Path
	for _, x := range s.items {
		if who == 0 || slices.Contains(x.Holders, who) {
			l = append(l, x.Object.Path)
		}
	}
	slices.SortFunc(l, plainOrder)
	return l
}

func (s *plain) runs() []api.Run {
	var l []api.Run
	for _, p := range s.of(0) {
		l = append(l, s.items[s.at(p)].Runs...)
	}
	return l
}

func (s *plain) sizes(who int) (int, int) {
	many := 0
	for _, p := range s.of(who) {
		many += s.items[s.at(p)].Object.Size
	}
	return len(s.of(who)), many
}

// wantAlike asks that a shelf tells what the plain one tells, of all holders, some numbers that are none, and these paths.
func (s *plain) wantAlike(t *testing.T, what string, x *cas.Shelf, paths ...api.Path) {
	t.Helper()
	for who := -2; who <= 11; who++ {
		what := fmt.Sprint(what, ", of ", who)
		wantList(t, what, x.Of(who), s.of(who))
		objects, many := s.sizes(who)
		wantSizes(t, what, x, who, objects, many)
		for _, p := range paths {
			if x.Has(p, who) != s.has(p, who) {
				t.Errorf("%s: Has %v: %v", what, p, x.Has(p, who))
			}
		}
	}
	for _, p := range paths {
		i, e := x.Find(p)
		w, we := s.find(p)
		if e != we || !sameItem(i, w) {
			t.Errorf("%s: Find %v: %v, error %d, not %v, %d", what, p, i, e, w, we)
		}
	}
	wantList(t, what+": runs", x.Runs(), s.runs())
}

// somePaths are few, so that calls meet: some are of one hash, some of one name.
func somePaths() []api.Path {
	return []api.Path{pathOf("b", 2), pathOf("a", 2), pathOf("a", 1, 9), pathOf("c"), pathOf("a", 255), pathOf("B", 2), pathOf("a", 0, 3)}
}

// someObject is one of these paths, right but for a few; of each path some are others.
func someObject(r *rand.Rand, paths ...api.Path) api.Object {
	p := paths[r.Intn(len(paths))]
	o := objectOf(p, int(p.Hash[0])+10, pathOf("r", p.Hash[0], 77))
	switch r.Intn(30) {
	case 0:
		o.Size++
	case 1:
		o.Refs = nil
	case 2:
		o.Refs = append(o.Refs, pathOf("s", p.Hash[0], 77))
	case 3:
		o.Self = true
	case 4:
		o.Refs = append(o.Refs, o.Refs[0])
	case 5:
		o.Size = -1
	case 6:
		o.Path.Name = ""
	}
	return o
}

// someRuns are none, or a few, of any numbers.
func someRuns(r *rand.Rand) []api.Run {
	var l []api.Run
	for range r.Intn(4) {
		l = append(l, api.Run{At: r.Intn(100), Many: r.Intn(9)})
	}
	return l
}
