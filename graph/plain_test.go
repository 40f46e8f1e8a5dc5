package graph_test

import (
	"bytes"
	"math/rand"
	"slices"
	"strings"
	"testing"

	"spence/api"
	"spence/graph"
)

// pathOf is a path of a hash with these first bytes.
func pathOf(name string, first ...byte) api.Path {
	p := api.Path{Name: name}
	copy(p.Hash[:], first)
	return p
}

// numbered is the path of a number; the greater the number, the further behind.
func numbered(i int) api.Path {
	return pathOf("n", byte(i>>8), byte(i))
}

// numbers are the paths of numbers.
func numbers(l ...int) []api.Path {
	var paths []api.Path
	for _, i := range l {
		paths = append(paths, numbered(i))
	}
	return paths
}

// objectOf is an object of a path, which refers to those.
func objectOf(p api.Path, size int, of ...api.Path) api.Object {
	return api.Object{Path: p, Size: size, Refs: of}
}

// object is that of a number, whose size it is, and which refers to those of others.
func object(i int, of ...int) api.Object {
	return objectOf(numbered(i), i, numbers(of...)...)
}

// chain are so many objects from number 0 on, of which each but the last one refers to the next.
func chain(many int) []api.Object {
	var l []api.Object
	for i := range many - 1 {
		l = append(l, object(i, i+1))
	}
	return append(l, objectOf(numbered(many-1), 1))
}

// shuffled are the same elements in another order.
func shuffled[T any](r *rand.Rand, l []T) []T {
	l = slices.Clone(l)
	r.Shuffle(len(l), func(i, j int) { l[i], l[j] = l[j], l[i] })
	return l
}

// plainOrder is the order of paths.
func plainOrder(p, q api.Path) int {
	if c := bytes.Compare(p.Hash[:], q.Hash[:]); c != 0 {
		return c
	}
	return strings.Compare(p.Name, q.Name)
}

// plainSorted are paths in order, each once.
func plainSorted(l []api.Path) []api.Path {
	l = slices.Clone(l)
	slices.SortFunc(l, plainOrder)
	return slices.Compact(l)
}

// plainRefs are what the object of a path refers to, and whether there is one.
func plainRefs(l []api.Object, p api.Path) ([]api.Path, bool) {
	i := slices.IndexFunc(l, func(o api.Object) bool { return o.Path == p })
	if i < 0 {
		return nil, false
	}
	return l[i].Refs, true
}

// plainGraph says whether objects are one, where all names in them are names, or none at all.
func plainGraph(l []api.Object) bool {
	for i, o := range l {
		for j, p := range o.Refs {
			if p.Hash == o.Path.Hash || p.Name == "" || slices.Contains(o.Refs[:j], p) {
				return false
			}
		}
		if _, twice := plainRefs(l[:i], o.Path); twice || o.Path.Name == "" || !slices.IsSortedFunc(o.Refs, plainOrder) || len(o.Refs) > 32 || o.Size < 0 || o.Size > 4096 {
			return false
		}
	}
	return len(l) <= 2000
}

// plainAll is a closure, whole or not: as long as something in it refers to what is not in it, that is put in.
func plainAll(l []api.Object, from ...api.Path) []api.Path {
	all := plainSorted(from)
	for {
		more := all
		for _, p := range all {
			refs, _ := plainRefs(l, p)
			more = append(more, refs...)
		}
		more = plainSorted(more)
		if len(more) == len(all) {
			return all
		}
		all = more
	}
}

func plainMissing(l []api.Object, from ...api.Path) ([]api.Path, api.Errno) {
	if !plainGraph(l) {
		return nil, api.ErrArg
	}
	var missing []api.Path
	for _, p := range plainAll(l, from...) {
		if _, ok := plainRefs(l, p); !ok {
			missing = append(missing, p)
		}
	}
	return missing, api.OK
}

func plainClosure(l []api.Object, from ...api.Path) ([]api.Path, api.Errno) {
	missing, e := plainMissing(l, from...)
	switch {
	case e != api.OK:
		return nil, e
	case len(missing) > 0:
		return nil, api.ErrRefs
	}
	return plainAll(l, from...), api.OK
}

func plainBytes(l []api.Object, from ...api.Path) (objects, many int, e api.Errno) {
	all, e := plainClosure(l, from...)
	for _, o := range l {
		if slices.Contains(all, o.Path) {
			many += o.Size
		}
	}
	return len(all), many, e
}

func plainUsers(l []api.Object, p api.Path) ([]api.Path, api.Errno) {
	if !plainGraph(l) {
		return nil, api.ErrArg
	}
	var users []api.Path
	for _, o := range l {
		if slices.Contains(o.Refs, p) {
			users = append(users, o.Path)
		}
	}
	return plainSorted(users), api.OK
}

// plainRing says whether one of these paths is met again behind what it refers to.
func plainRing(l []api.Object, paths []api.Path) bool {
	for _, p := range paths {
		refs, _ := plainRefs(l, p)
		if slices.Contains(plainAll(l, refs...), p) {
			return true
		}
	}
	return false
}

func plainOrdered(l []api.Object, from ...api.Path) ([]api.Path, api.Errno) {
	all, e := plainClosure(l, from...)
	switch {
	case e != api.OK:
		return nil, e
	case plainRing(l, all):
		return nil, api.ErrShape
	}
	var told []api.Path
	var through func(p api.Path)
	through = func(p api.Path) {
		if slices.Contains(told, p) {
			return
		}
		refs, _ := plainRefs(l, p)
		for _, q := range refs {
			through(q)
		}
		told = append(told, p)
	}
	for _, p := range plainSorted(from) {
		through(p)
	}
	return told, api.OK
}

// wantError asks that an error is that.
func wantError(t *testing.T, what string, e, w api.Errno) {
	t.Helper()
	if e != w {
		t.Errorf("%s: error %d, not %d", what, e, w)
	}
}

// wantPaths asks that paths are those, and an error that.
func wantPaths(t *testing.T, what string, l []api.Path, e api.Errno, w []api.Path, we api.Errno) {
	t.Helper()
	wantError(t, what, e, we)
	if !slices.Equal(l, w) {
		t.Errorf("%s: %v, not %v", what, l, w)
	}
	if e != api.OK && l != nil {
		t.Errorf("%s: %v beside error %d", what, l, e)
	}
}

// wantClosure asks for a closure of some paths, or an error.
func wantClosure(t *testing.T, what string, l, from []api.Path, of []api.Object, w api.Errno) {
	t.Helper()
	p, e := graph.Closure(of, from...)
	wantPaths(t, what+": Closure", p, e, l, w)
}

// wantOrder asks for an order of some paths, or an error.
func wantOrder(t *testing.T, what string, l, from []api.Path, of []api.Object, w api.Errno) {
	t.Helper()
	p, e := graph.Order(of, from...)
	wantPaths(t, what+": Order", p, e, l, w)
}

// wantMissing asks that just these paths are missing.
func wantMissing(t *testing.T, what string, l, from []api.Path, of []api.Object) {
	t.Helper()
	p, e := graph.Missing(of, from...)
	wantPaths(t, what+": Missing", p, e, l, api.OK)
}

// wantUsers asks that just these paths are users of one.
func wantUsers(t *testing.T, what string, l []api.Path, p api.Path, of []api.Object) {
	t.Helper()
	users, e := graph.Users(of, p)
	wantPaths(t, what+": Users", users, e, l, api.OK)
}

// wantBytes asks for so many objects and bytes, or an error.
func wantBytes(t *testing.T, what string, objects, many int, from []api.Path, of []api.Object, w api.Errno) {
	t.Helper()
	o, b, e := graph.Bytes(of, from...)
	wantError(t, what+": Bytes", e, w)
	if o != objects || b != many {
		t.Errorf("%s: Bytes: %d, %d, not %d, %d", what, o, b, objects, many)
	}
}

// wantNone asks that all calls tell that error, and nothing beside it.
func wantNone(t *testing.T, what string, from []api.Path, of []api.Object, w api.Errno) {
	t.Helper()
	wantClosure(t, what, nil, from, of, w)
	wantOrder(t, what, nil, from, of, w)
	wantBytes(t, what, 0, 0, from, of, w)
	l, e := graph.Missing(of, from...)
	wantPaths(t, what+": Missing", l, e, nil, w)
	var p api.Path
	if len(from) > 0 {
		p = from[0]
	}
	l, e = graph.Users(of, p)
	wantPaths(t, what+": Users", l, e, nil, w)
}

// wantAlike asks that all calls tell what the plain ones tell.
func wantAlike(t *testing.T, what string, from []api.Path, of []api.Object) {
	t.Helper()
	l, e := plainClosure(of, from...)
	wantClosure(t, what, l, from, of, e)
	l, e = plainOrdered(of, from...)
	wantOrder(t, what, l, from, of, e)
	objects, many, e := plainBytes(of, from...)
	wantBytes(t, what, objects, many, from, of, e)
	l, e = graph.Missing(of, from...)
	w, we := plainMissing(of, from...)
	wantPaths(t, what+": Missing", l, e, w, we)
	for _, p := range from {
		l, e = graph.Users(of, p)
		w, we = plainUsers(of, p)
		wantPaths(t, what+": Users", l, e, w, we)
	}
}

// wantNoClosure asks that Closure, Order and Bytes tell that error, and nothing beside it.
func wantNoClosure(t *testing.T, what string, from []api.Path, of []api.Object, w api.Errno) {
	t.Helper()
	wantClosure(t, what, nil, from, of, w)
	wantOrder(t, what, nil, from, of, w)
	wantBytes(t, what, 0, 0, from, of, w)
}
