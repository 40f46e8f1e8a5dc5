package graph_test

import (
	"math/rand"
	"slices"
	"testing"

	"spence/api"
)

// P13.2: the chapter's example, and what stands behind what.
func TestOrder(t *testing.T) {
	a, b, c := pathOf("a", 1), pathOf("b", 2), pathOf("c", 3)
	of := []api.Object{objectOf(c, 4, b), objectOf(b, 2, a), objectOf(a, 1)}
	wantOrder(t, "c", []api.Path{a, b, c}, []api.Path{c}, of, api.OK)

	// What is referred to is greater here, or less, by turns.
	of = []api.Object{object(1, 5, 7), object(2), object(3, 1, 8), object(4, 2, 3, 8), object(5, 2), object(6, 4), object(7, 5), object(8)}
	r := rand.New(rand.NewSource(3))
	for range 20 {
		of = shuffled(r, of)
		for _, c := range []struct{ from, w []api.Path }{
			{numbers(8), numbers(8)},
			{numbers(5), numbers(2, 5)},
			{numbers(7), numbers(2, 5, 7)},
			{numbers(1), numbers(2, 5, 7, 1)},
			{numbers(3), numbers(2, 5, 7, 1, 8, 3)},
			{numbers(6), numbers(2, 5, 7, 1, 8, 3, 4, 6)},
			{numbers(8, 1, 2), numbers(2, 5, 7, 1, 8)},
			{numbers(8, 2, 8), numbers(2, 8)},
			{numbers(7, 3, 7), numbers(2, 5, 7, 1, 8, 3)},
			{numbers(8, 7, 6, 5, 4, 3, 2, 1), numbers(2, 5, 7, 1, 8, 3, 4, 6)},
		} {
			wantOrder(t, "some", c.w, shuffled(r, c.from), of, api.OK)
		}
	}
}

// P13.2: what is referred to comes in order, and each one's own ahead of it.
func TestOrderOfRefs(t *testing.T) {
	a, b, upper, next := pathOf("a", 2), pathOf("b", 2), pathOf("B", 2), pathOf("a", 2, 1)
	top := pathOf("t", 1)
	of := []api.Object{objectOf(top, 0, upper, a, b, next), objectOf(upper, 0, next), objectOf(a, 0), objectOf(b, 0), objectOf(next, 0)}
	wantOrder(t, "of one hash", []api.Path{next, upper, a, b, top}, []api.Path{top}, of, api.OK)
	wantOrder(t, "from all", []api.Path{next, upper, a, b}, []api.Path{b, a, next, upper}, of[1:], api.OK)
}

// P13.2: rings, of each length, and wherever they are in a closure.
func TestOrderOfRing(t *testing.T) {
	for many := 2; many <= 6; many++ {
		of := chain(many)
		of[many-1].Refs = numbers(0)
		of = append(of, object(10, many-1, 11), object(11), object(12, 10), object(13, 11))
		for i := range many {
			wantOrder(t, "on the ring", nil, numbers(i), of, api.ErrShape)
		}
		for _, from := range [][]api.Path{numbers(10), numbers(12), numbers(13, 12), numbers(11, 0), numbers(1, 11)} {
			wantOrder(t, "behind others", nil, from, of, api.ErrShape)
		}
		wantOrder(t, "elsewhere", numbers(11, 13), numbers(13), of, api.OK)
		// One ref less, and there is none.
		of[0].Refs = nil
		wantOrder(t, "no ring", append(numbers(0), backTo(1, many)...), numbers(many-1, 0, 1), of, api.OK)
	}
	// A ring's objects may refer to more; a ring may be met at its end, or behind what is told already.
	of := []api.Object{object(1), object(2, 1), object(3, 1, 2, 5), object(4, 1, 3), object(5, 2, 4), object(6, 1, 2)}
	for _, from := range [][]api.Path{numbers(3), numbers(4), numbers(5), numbers(6, 5)} {
		wantOrder(t, "with more", nil, from, of, api.ErrShape)
	}
	wantOrder(t, "with more", numbers(1, 2, 6), numbers(6), of, api.OK)
}

// backTo are the numbers' paths from the last one down to the first.
func backTo(first, behind int) []api.Path {
	var l []api.Path
	for i := behind - 1; i >= first; i-- {
		l = append(l, numbered(i))
	}
	return l
}

// P13.2: what is met again, but not on a ring, is none.
func TestOrderMetAgain(t *testing.T) {
	of := []api.Object{object(1, 2, 3), object(2, 4), object(3, 2, 4), object(4)}
	wantOrder(t, "twice", numbers(4, 2, 3, 1), numbers(1), of, api.OK)
	wantOrder(t, "twice", numbers(4, 2, 3, 1), numbers(4, 3, 2, 1), of, api.OK)
	// Each of these refers to the next 32: the ways among them are more than one could go.
	of = nil
	for i := range 1900 {
		var refs []int
		for k := i + 1; k < min(i+33, 1900); k++ {
			refs = append(refs, k)
		}
		of = append(of, objectOf(numbered(i), 1, numbers(refs...)...))
	}
	wantOrder(t, "more ways", backTo(0, 1900), numbers(0), of, api.OK)
	wantBytes(t, "more ways", 1900, 1900, numbers(0), of, api.OK)
	of[1899].Refs = numbers(0)
	wantOrder(t, "more ways, and a ring", nil, numbers(0), of, api.ErrShape)
}

// P13.2: ErrRefs comes ahead of ErrShape, whichever is met first.
func TestOrderNotWhole(t *testing.T) {
	of := []api.Object{object(1, 2, 9), object(2, 1), object(3, 2, 4), object(4, 3), object(5, 0, 6), object(6, 5), object(7, 8), object(8, 7)}
	for _, from := range [][]api.Path{numbers(1), numbers(2), numbers(3), numbers(5), numbers(6), numbers(7, 9), numbers(7, 0), numbers(0), {{}}} {
		wantOrder(t, "not whole", nil, from, of, api.ErrRefs)
	}
	wantOrder(t, "whole", nil, numbers(7), of, api.ErrShape)
	wantOrder(t, "whole", nil, numbers(8), of, api.ErrShape)
}

// P13.3: users, in order, whether there is an object or not, and whether their closures are whole.
func TestUsers(t *testing.T) {
	a, b, c := pathOf("a", 1), pathOf("b", 2), pathOf("c", 3)
	of := []api.Object{objectOf(c, 4, b), objectOf(b, 2, a), objectOf(a, 1)}
	wantUsers(t, "a", []api.Path{b}, a, of)
	wantUsers(t, "b", []api.Path{c}, b, of)
	wantUsers(t, "c", nil, c, of)

	of = []api.Object{object(1, 2, 5, 9), object(2, 1, 3), object(3, 5, 9), object(4, 1), object(5, 9), object(6)}
	r := rand.New(rand.NewSource(4))
	for range 20 {
		of = shuffled(r, of)
		for p, w := range map[int][]api.Path{0: nil, 1: numbers(2, 4), 2: numbers(1), 3: numbers(2), 4: nil, 5: numbers(1, 3), 6: nil, 9: numbers(1, 3, 5), 10: nil} {
			wantUsers(t, "some", w, numbered(p), of)
		}
		for _, p := range []api.Path{{}, pathOf("m", 0, 9), pathOf("", 0, 9), pathOf("N", 0, 9), pathOf("n", 0, 9, 1), pathOf("not a name")} {
			wantUsers(t, "of nobody", nil, p, of)
		}
	}
	// Users of one hash are in the order of their names; one may be referred to by all others.
	last := pathOf("z", 200)
	var all []api.Object
	var w []api.Path
	for _, n := range []string{"+", "A", "B", "a", "aa", "b"} {
		w = append(w, pathOf(n, 100))
		all = append(all, objectOf(pathOf(n, 100), 1, last))
	}
	for i := range 1000 {
		w = append(w, pathOf("n", 101, byte(i>>8), byte(i)))
		all = append(all, objectOf(w[len(w)-1], 1, pathOf("l", 150), last, pathOf("l", 250)))
	}
	wantUsers(t, "all", w, last, shuffled(r, all))
	wantUsers(t, "more", w[6:], pathOf("l", 250), all)
	if !slices.IsSortedFunc(w, plainOrder) {
		t.Error("the test's own paths are out of order")
	}
}
