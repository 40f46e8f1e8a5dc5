package graph_test

import (
	"math/rand"
	"slices"
	"testing"

	"spence/api"
)

// P13.1: the chapter's example; closures are told in order, each path once, whatever order objects and paths come in.
func TestClosure(t *testing.T) {
	a, b, c := pathOf("a", 1), pathOf("b", 2), pathOf("c", 3)
	of := []api.Object{objectOf(c, 4, b), objectOf(b, 2, a), objectOf(a, 1)}
	wantClosure(t, "c", []api.Path{a, b, c}, []api.Path{c}, of, api.OK)
	wantClosure(t, "b", []api.Path{a, b}, []api.Path{b}, of, api.OK)
	wantClosure(t, "a", []api.Path{a}, []api.Path{a}, of, api.OK)
	wantClosure(t, "c, a", []api.Path{a, b, c}, []api.Path{c, a}, of, api.OK)
	wantClosure(t, "c, a, c, c", []api.Path{a, b, c}, []api.Path{c, a, c, c}, of, api.OK)

	r := rand.New(rand.NewSource(1))
	of = []api.Object{object(1, 5, 7), object(2), object(3, 1), object(4, 2, 3, 8), object(5), object(6, 4), object(7, 2), object(8)}
	for range 20 {
		of = shuffled(r, of)
		wantClosure(t, "1", numbers(1, 2, 5, 7), numbers(1), of, api.OK)
		wantClosure(t, "4", numbers(1, 2, 3, 4, 5, 7, 8), numbers(4), of, api.OK)
		wantClosure(t, "8 and others", numbers(2, 5, 7, 8), shuffled(r, numbers(8, 7, 5, 8)), of, api.OK)
		wantClosure(t, "6 and others", numbers(1, 2, 3, 4, 5, 6, 7, 8), shuffled(r, numbers(6, 1, 2, 6)), of, api.OK)
	}
}

// P13.1: paths of one hash are told in the order of their names; that they are others.
func TestClosureInOrder(t *testing.T) {
	a, b, upper, next := pathOf("a", 2), pathOf("b", 2), pathOf("B", 2), pathOf("a", 2, 1)
	low, high := pathOf("z"), pathOf("A", 255)
	of := []api.Object{objectOf(low, 0, upper, a, b, next), objectOf(a, 1, low, high), objectOf(b, 1), objectOf(upper, 1), objectOf(next, 1), objectOf(high, 1)}
	all := []api.Path{low, upper, a, b, next, high}
	wantClosure(t, "all", all, []api.Path{low}, of, api.OK)
	wantClosure(t, "all", all, []api.Path{a}, of, api.OK)
	wantClosure(t, "some", []api.Path{upper, b, next}, []api.Path{next, b, upper}, of, api.OK)
}

// P13.1: a closure that is not whole, wherever what is missing is.
func TestClosureNotWhole(t *testing.T) {
	of := []api.Object{object(1, 2, 3), object(2, 4), object(3, 9), object(4), object(5, 4)}
	for _, from := range [][]api.Path{numbers(1), numbers(3), numbers(9), numbers(7), numbers(4, 7), numbers(7, 4), numbers(2, 3), numbers(5, 1), {{}}, {numbered(4), {}}, {pathOf("m", 0, 4)}, {pathOf("N", 0, 4)}} {
		wantNoClosure(t, "not whole", from, of, api.ErrRefs)
	}
	// What the closure does not have, nobody asks for.
	wantClosure(t, "2", numbers(2, 4), numbers(2), of, api.OK)
	wantClosure(t, "5, 2", numbers(2, 4, 5), numbers(5, 2), of, api.OK)
	// With what was missing it is whole.
	of = append(of, object(9, 4))
	wantClosure(t, "1", numbers(1, 2, 3, 4, 9), numbers(1), of, api.OK)
}

// P13.1: rings, and objects that refer to themselves, have closures as all others.
func TestClosureOfRing(t *testing.T) {
	of := []api.Object{object(1, 2), object(2, 3, 4), object(3, 1), object(4), object(5, 6), object(6, 5)}
	for i := 1; i <= 3; i++ {
		wantClosure(t, "the ring", numbers(1, 2, 3, 4), numbers(i), of, api.OK)
		wantBytes(t, "the ring", 4, 10, numbers(i), of, api.OK)
		wantMissing(t, "the ring", nil, numbers(i), of)
	}
	wantClosure(t, "both", numbers(1, 2, 3, 4, 5, 6), numbers(6, 3), of, api.OK)
	of[2].Refs = numbers(1, 8)
	wantNoClosure(t, "a ring that is not whole", numbers(2), of, api.ErrRefs)
	wantMissing(t, "a ring that is not whole", numbers(8), numbers(2), of)

	self := with(object(1, 2), func(o *api.Object) { o.Self = true })
	of = []api.Object{self, object(2)}
	wantClosure(t, "itself", numbers(1, 2), numbers(1), of, api.OK)
	wantOrder(t, "itself", numbers(2, 1), numbers(1), of, api.OK)
	wantUsers(t, "itself", nil, numbered(1), of)
}

// P13.1: what is missing, in order, each once; what such would refer to is not in it.
func TestMissing(t *testing.T) {
	of := []api.Object{object(1, 2, 8), object(2, 7, 9), object(3, 6, 8), object(4), object(5, 3)}
	for _, c := range []struct{ from, w []api.Path }{
		{numbers(4), nil},
		{numbers(1), numbers(7, 8, 9)},
		{numbers(2), numbers(7, 9)},
		{numbers(5), numbers(6, 8)},
		{numbers(5, 2, 4, 5), numbers(6, 7, 8, 9)},
		{numbers(8), numbers(8)},
		{numbers(30, 20, 8, 3, 20), numbers(6, 8, 20, 30)},
		{[]api.Path{{}, pathOf("m", 0, 4), pathOf("not a name"), numbered(4)}, []api.Path{{}, pathOf("not a name"), pathOf("m", 0, 4)}},
	} {
		wantMissing(t, "some", c.w, c.from, of)
	}
	r := rand.New(rand.NewSource(2))
	for range 20 {
		wantMissing(t, "in any order", numbers(6, 7, 8, 9, 20), shuffled(r, numbers(20, 1, 5, 4)), shuffled(r, of))
	}
}

// P13.1: what is told of a closure's bytes.
func TestBytes(t *testing.T) {
	of := []api.Object{objectOf(numbered(1), 4096, numbered(2), numbered(3)), objectOf(numbered(2), 0, numbered(3)), objectOf(numbered(3), 10), objectOf(numbered(4), 1, numbered(9))}
	wantBytes(t, "nothing", 0, 0, nil, of, api.OK)
	wantBytes(t, "3", 1, 10, numbers(3), of, api.OK)
	wantBytes(t, "2", 2, 10, numbers(2), of, api.OK)
	wantBytes(t, "1", 3, 4106, numbers(1), of, api.OK)
	wantBytes(t, "all, and more than once", 3, 4106, numbers(3, 1, 2, 3, 1), of, api.OK)
	wantBytes(t, "not whole", 0, 0, numbers(4), of, api.ErrRefs)
	wantBytes(t, "not whole", 0, 0, numbers(1, 4), of, api.ErrRefs)
	wantBytes(t, "not whole", 0, 0, numbers(9), of, api.ErrRefs)
	of = nil
	for i := range 2000 {
		of = append(of, objectOf(numbered(i), 4096))
	}
	var from []api.Path
	for _, o := range of {
		from = append(from, o.Path)
	}
	wantBytes(t, "2000 of 4096", 2000, 8192000, from, of, api.OK)
}

// P13.1, R1: paths that are asked for have no limit.
func TestManyPaths(t *testing.T) {
	of := []api.Object{object(1), object(2, 1)}
	from := slices.Repeat(numbers(2, 1), 100000)
	wantClosure(t, "many", numbers(1, 2), from, of, api.OK)
	wantOrder(t, "many", numbers(1, 2), from, of, api.OK)
	wantBytes(t, "many", 2, 3, from, of, api.OK)
	var w []api.Path
	for i := 3; i < 60000; i++ {
		w = append(w, numbered(i))
	}
	wantMissing(t, "many", w, append(slices.Clone(w), from...), of)
	wantNoClosure(t, "many", append(from, w...), of, api.ErrRefs)
}
