package graph_test

import (
	"math"
	"slices"
	"strings"
	"testing"

	"spence/api"
	"spence/graph"
)

// with is an object in which something is made otherwise.
func with(o api.Object, do func(o *api.Object)) api.Object {
	o.Refs = slices.Clone(o.Refs)
	do(&o)
	return o
}

// someStarts are from where closures are asked for: nothing, one path that is there, all, one of which there is no object.
func someStarts() [][]api.Path {
	return [][]api.Path{nil, numbers(1), numbers(3, 2, 1), numbers(9), {{}}}
}

// P13.1 to P13.3: objects that are not right are no graph, wherever they stand, and whether the closure has them or not.
func TestNotRight(t *testing.T) {
	many := numbers()
	for i := range 33 {
		many = append(many, numbered(100+i))
	}
	good := object(2, 1, 3)
	for what, do := range map[string]func(o *api.Object){
		"no name":              func(o *api.Object) { o.Path.Name = "" },
		"a name that is none":  func(o *api.Object) { o.Path.Name = "a/b" },
		"a name that is long":  func(o *api.Object) { o.Path.Name = strings.Repeat("n", 25) },
		"a size below 0":       func(o *api.Object) { o.Size = -1 },
		"the least size":       func(o *api.Object) { o.Size = math.MinInt },
		"a size above 4096":    func(o *api.Object) { o.Size = 4097 },
		"refs out of order":    func(o *api.Object) { slices.Reverse(o.Refs) },
		"a ref twice":          func(o *api.Object) { o.Refs = numbers(1, 1, 3) },
		"a ref to itself":      func(o *api.Object) { o.Refs = numbers(1, 2, 3) },
		"a ref of its hash":    func(o *api.Object) { o.Refs = []api.Path{pathOf("m", 0, 2)} },
		"a ref without a name": func(o *api.Object) { o.Refs[1].Name = "" },
		"a ref of no name":     func(o *api.Object) { o.Refs[0].Name = ".n" },
		"33 refs":              func(o *api.Object) { o.Refs = many },
	} {
		bad := with(good, do)
		for _, of := range [][]api.Object{
			{bad},
			{bad, object(1), object(3)},
			{object(1), bad, object(3)},
			{object(1), object(3), bad},
		} {
			for _, from := range someStarts() {
				wantNone(t, what, from, of, api.ErrArg)
			}
		}
	}
	wantNone(t, "no object at all", numbers(1), []api.Object{{}}, api.ErrArg)
	for what, do := range map[string]func(o *api.Object){
		"as it is":       func(o *api.Object) {},
		"a size of 4096": func(o *api.Object) { o.Size = 4096 },
		"a size of 0":    func(o *api.Object) { o.Size = 0 },
		"24 letters":     func(o *api.Object) { o.Refs[1].Name = strings.Repeat("n", 24) },
		"32 refs":        func(o *api.Object) { o.Refs = many[:32] },
		"itself":         func(o *api.Object) { o.Self = true },
	} {
		o := with(good, do)
		wantClosure(t, what, nil, nil, []api.Object{object(1), o, object(3)}, api.OK)
		wantMissing(t, what, o.Refs, numbers(2), []api.Object{o})
		wantUsers(t, what, numbers(2), o.Refs[0], []api.Object{o})
	}
}

// P13.1 to P13.3: no two objects of a graph have one path, even if they are one.
func TestTwoOfOnePath(t *testing.T) {
	for what, twin := range map[string]api.Object{"the same": object(2, 1), "another size": objectOf(numbered(2), 7, numbered(1)), "other refs": object(2), "itself, too": with(object(2, 1), func(o *api.Object) { o.Self = true })} {
		for _, of := range [][]api.Object{
			{object(2, 1), twin},
			{twin, object(2, 1), object(1), object(3)},
			{object(1), object(2, 1), object(3), twin},
		} {
			for _, from := range someStarts() {
				wantNone(t, what, from, of, api.ErrArg)
			}
		}
	}
	// Of one hash, or of one name, there may be more.
	a, b, c := pathOf("a", 1), pathOf("b", 1), pathOf("a", 2)
	of := []api.Object{objectOf(c, 4, a, b), objectOf(b, 2), objectOf(a, 1)}
	wantClosure(t, "one hash", []api.Path{a, b, c}, []api.Path{c}, of, api.OK)
	wantBytes(t, "one hash", 3, 7, []api.Path{c}, of, api.OK)
	wantUsers(t, "one hash", []api.Path{c}, b, of)
	wantClosure(t, "the other one", []api.Path{b}, []api.Path{b}, of, api.OK)
	wantClosure(t, "of its hash, but not there", nil, []api.Path{pathOf("c", 1)}, of, api.ErrRefs)
}

// P13.1 to P13.3: a graph has 2000 objects at most.
func TestMostObjects(t *testing.T) {
	of := chain(2001)
	for _, from := range [][]api.Path{nil, numbers(0), numbers(2000), numbers(3000)} {
		wantNone(t, "2001", from, of, api.ErrArg)
	}
	wantNone(t, "2000 and one twice", nil, append(chain(2000), object(7)), api.ErrArg)
	of = chain(2000)
	var all, back []api.Path
	for i := range 2000 {
		all = append(all, numbered(i))
	}
	for _, p := range slices.Backward(all) {
		back = append(back, p)
	}
	wantClosure(t, "2000", all, numbers(0), of, api.OK)
	wantOrder(t, "2000", back, numbers(0), of, api.OK)
	wantOrder(t, "2000, from all", back, all, of, api.OK)
	wantMissing(t, "2000", nil, numbers(0), of)
	wantUsers(t, "2000", numbers(1998), numbered(1999), of)
	wantBytes(t, "2000, from the last ones", 2, 1999, numbers(1998), of, api.OK)
	of[1999].Refs = numbers(2000)
	wantNoClosure(t, "2000, and one that is not there", numbers(0), of, api.ErrRefs)
	wantMissing(t, "2000, and one that is not there", numbers(2000), numbers(0), of)
	of[1999].Refs = numbers(0)
	wantClosure(t, "a ring of 2000", all, numbers(1000), of, api.OK)
	wantOrder(t, "a ring of 2000", nil, numbers(1000), of, api.ErrShape)
}

// P13.1 to P13.3, R6: of no objects, whichever way they are told.
func TestNoObjects(t *testing.T) {
	for _, of := range [][]api.Object{nil, {}} {
		for _, from := range [][]api.Path{nil, {}} {
			wantClosure(t, "nothing", nil, from, of, api.OK)
			wantOrder(t, "nothing", nil, from, of, api.OK)
			wantMissing(t, "nothing", nil, from, of)
			wantBytes(t, "nothing", 0, 0, from, of, api.OK)
		}
		wantUsers(t, "nothing", nil, numbered(1), of)
		wantUsers(t, "nothing", nil, api.Path{}, of)
		wantNoClosure(t, "nothing", numbers(1), of, api.ErrRefs)
		wantMissing(t, "nothing", numbers(1, 2), numbers(2, 1, 2), of)
	}
	of := []api.Object{object(2, 1), object(1), object(3, 9)}
	wantClosure(t, "from nothing", nil, nil, of, api.OK)
	wantOrder(t, "from nothing", nil, nil, of, api.OK)
	wantMissing(t, "from nothing", nil, nil, of)
	wantBytes(t, "from nothing", 0, 0, nil, of, api.OK)
	if l, _ := graph.Closure(of, []api.Path{}...); l != nil {
		t.Error("from nothing: an empty list")
	}
}
