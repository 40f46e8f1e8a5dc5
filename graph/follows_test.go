package graph_test

import (
	"fmt"
	"math/rand"
	"slices"
	"testing"

	"spence/api"
	"spence/graph"
)

// somePaths are few: some are of one hash, some of one name.
func somePaths() []api.Path {
	return []api.Path{pathOf("b", 2), pathOf("a", 2), pathOf("a", 1, 9), pathOf("c"), pathOf("a", 255), pathOf("B", 2), pathOf("a", 0, 3), pathOf("d", 7)}
}

// someObjects are of some of these paths, each of which refers to some of them, to such of other hashes; where no ring may be, to those ahead of it alone.
func someObjects(r *rand.Rand, ring bool, paths ...api.Path) []api.Object {
	var l []api.Object
	for i, p := range paths {
		var refs []api.Path
		for k, q := range paths {
			if q.Hash != p.Hash && (ring || k < i) && r.Intn(4) == 0 {
				refs = append(refs, q)
			}
		}
		if r.Intn(6) > 0 {
			l = append(l, objectOf(p, r.Intn(4097), plainSorted(refs)...))
			l[len(l)-1].Self = r.Intn(2) == 0
		}
	}
	return shuffled(r, l)
}

// spoilt are objects in which, now and then, something is made otherwise.
func spoilt(r *rand.Rand, l []api.Object) []api.Object {
	if len(l) == 0 {
		return l
	}
	o := &l[r.Intn(len(l))]
	switch r.Intn(30) {
	case 0:
		o.Size = 4097
	case 1:
		o.Path.Name = ""
	case 2:
		o.Refs = append(o.Refs, o.Path)
	case 3:
		l = append(l, *o)
	case 4:
		o.Refs = append(o.Refs, o.Refs...)
	}
	return l
}

// someFrom are a few of these paths, now and then one that none of them is.
func someFrom(r *rand.Rand, paths ...api.Path) []api.Path {
	var l []api.Path
	for range r.Intn(4) {
		l = append(l, paths[r.Intn(len(paths))])
	}
	if r.Intn(20) == 0 {
		l = append(l, pathOf("x", 2))
	}
	return l
}

// P13.1 to P13.3: graphs by chance, held against the chapter's words.
func TestByChance(t *testing.T) {
	r := rand.New(rand.NewSource(5))
	tells := map[string]int{}
	for range 6000 {
		paths := shuffled(r, somePaths())[:1+r.Intn(8)]
		of := spoilt(r, someObjects(r, r.Intn(3) == 0, paths...))
		from := someFrom(r, paths...)
		wantAlike(t, fmt.Sprint(of, " from ", from), from, of)
		_, e := plainOrdered(of, from...)
		tells[fmt.Sprint("Order ", e)]++
		l, e := plainClosure(of, from...)
		tells[fmt.Sprint("Closure ", e, len(l) > 3)]++
		l, e = plainMissing(of, from...)
		tells[fmt.Sprint("Missing ", e, len(l) > 1)]++
		if t.Failed() {
			t.FailNow()
		}
	}
	for _, k := range []string{"Order 0", "Order 2", "Order 4", "Order 17", "Closure 0 true", "Closure 0 false", "Closure 2 false", "Closure 17 false", "Missing 0 false", "Missing 0 true", "Missing 2 false"} {
		if tells[k] < 100 {
			t.Errorf("%s: told %d times, of %v", k, tells[k], tells)
		}
	}
}

// P13.4: a closure holds what it is of; the closure of a closure is it; that of more paths is no smaller, and holds it.
func TestClosureOfClosure(t *testing.T) {
	r := rand.New(rand.NewSource(6))
	whole := 0
	for range 3000 {
		of := someObjects(r, r.Intn(2) == 0, somePaths()...)
		from := someFrom(r, somePaths()...)
		l, e := graph.Closure(of, from...)
		if e != api.OK {
			continue
		}
		whole++
		for _, p := range from {
			if !slices.Contains(l, p) {
				t.Errorf("%v from %v: %v has no %v", of, from, l, p)
			}
		}
		wantClosure(t, "again", l, l, of, api.OK)
		wantMissing(t, "a closure", nil, from, of)
		more := append(slices.Clone(from), someFrom(r, somePaths()...)...)
		greater, e := graph.Closure(of, more...)
		if e != api.OK {
			continue
		}
		for _, p := range l {
			if !slices.Contains(greater, p) {
				t.Errorf("%v from %v: %v has no %v", of, more, greater, p)
			}
		}
		objects, many, _ := graph.Bytes(of, from...)
		if o, m, _ := graph.Bytes(of, more...); objects != len(l) || o < objects || m < many {
			t.Errorf("%v from %v: %d, %d, but %d, %d from %v", of, from, objects, many, o, m, more)
		}
	}
	if whole < 1000 {
		t.Errorf("%d closures were whole", whole)
	}
}

// P13.4: in an order each path stands once, behind all that it refers to; and it has the closure's paths.
func TestEachBehindItsRefs(t *testing.T) {
	r := rand.New(rand.NewSource(7))
	long := 0
	for range 3000 {
		of := someObjects(r, r.Intn(4) == 0, shuffled(r, somePaths())...)
		from := someFrom(r, somePaths()...)
		order, e := graph.Order(of, from...)
		if e != api.OK {
			continue
		}
		for i, p := range order {
			refs, _ := plainRefs(of, p)
			for _, q := range refs {
				if k := slices.Index(order, q); k < 0 || k >= i {
					t.Errorf("%v from %v: %v: %v is ahead of %v", of, from, order, p, q)
				}
			}
		}
		l, e := graph.Closure(of, from...)
		wantPaths(t, "an order's paths", plainSorted(order), e, l, api.OK)
		if len(order) != len(l) {
			t.Errorf("%v from %v: %v", of, from, order)
		}
		if len(order) > 3 {
			long++
		}
	}
	if long < 300 {
		t.Errorf("%d orders had more than three paths", long)
	}
}

// R3: no argument is changed.
func TestChangesNoArgument(t *testing.T) {
	r := rand.New(rand.NewSource(8))
	for range 200 {
		of := someObjects(r, r.Intn(2) == 0, somePaths()...)
		from := shuffled(r, somePaths())
		had := make([]api.Object, len(of))
		for i, o := range of {
			had[i] = with(o, func(*api.Object) {})
		}
		was := slices.Clone(from)
		graph.Closure(of, from...)
		graph.Order(of, from...)
		graph.Missing(of, from...)
		graph.Bytes(of, from...)
		graph.Users(of, from[0])
		if !slices.Equal(from, was) {
			t.Fatalf("%v, not %v", from, was)
		}
		for i, o := range of {
			if o.Path != had[i].Path || o.Size != had[i].Size || o.Self != had[i].Self || !slices.Equal(o.Refs, had[i].Refs) {
				t.Fatalf("%v, not %v", o, had[i])
			}
		}
	}
}

// R3, R4: what is told is new memory, and it is told again, whatever is made of it.
func TestSharesNothing(t *testing.T) {
	a, b, c := numbered(1), numbered(2), numbered(3)
	of := []api.Object{object(1), object(2, 1), object(3, 1, 2, 9)}
	whole := []api.Object{of[0], of[1], object(3, 1, 2)}
	from := []api.Path{a, b, c}
	for range 3 {
		for what, tell := range map[string]func() ([]api.Path, api.Errno){
			"Closure":        func() ([]api.Path, api.Errno) { return graph.Closure(whole, from...) },
			"Closure of all": func() ([]api.Path, api.Errno) { return graph.Closure(whole, c) },
			"Order":          func() ([]api.Path, api.Errno) { return graph.Order(whole, from...) },
			"Missing":        func() ([]api.Path, api.Errno) { return graph.Missing(of, from...) },
			"Users":          func() ([]api.Path, api.Errno) { return graph.Users(of, a) },
		} {
			w := map[string][]api.Path{"Missing": numbers(9), "Users": {b, c}}[what]
			if w == nil {
				w = []api.Path{a, b, c}
			}
			first, e := tell()
			again, _ := tell()
			wantPaths(t, what, first, e, w, api.OK)
			clear(first[:cap(first)])
			wantPaths(t, what+", told ahead", again, e, w, api.OK)
		}
	}
	if !slices.Equal(from, []api.Path{a, b, c}) || !slices.Equal(of[2].Refs, numbers(1, 2, 9)) {
		t.Error("what was told is the arguments' memory")
	}
}
