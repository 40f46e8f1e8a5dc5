package store

import (
	"slices"

	"spence/api"
	"spence/graph"
	"spence/name"
	"spence/pack"
	"spence/sweep"
)

// What a deed is.
const (
	DeedAdd     = 1
	DeedAdopt   = 2
	DeedRoot    = 3
	DeedUnroot  = 4
	DeedNote    = 5
	DeedUnnote  = 6
	DeedCollect = 7
	DeedMend    = 8
)

// Deed is one that is done in a turn.
type Deed struct {
	Kind, Who int
	Name      string
	Bytes     []byte
	Self      api.Hash
	Of        []api.Path
	Path      api.Path
}

// deed does one, and tells its path.
func (t *turn) deed(d Deed) (api.Path, api.Errno) {
	if _, e := t.view.Quota(d.Who); e != api.OK {
		return api.Path{}, e
	}
	switch d.Kind {
	case DeedAdd:
		return t.add(d)
	case DeedAdopt:
		return d.Path, t.adopt(d.Who, d.Path)
	case DeedRoot:
		return d.Path, t.root(d)
	case DeedUnroot:
		return t.view.Unroot(d.Who, d.Name)
	case DeedNote:
		return api.Path{}, t.view.Note(d.Who, d.Name, d.Bytes)
	case DeedUnnote:
		return api.Path{}, t.view.Unnote(d.Who, d.Name)
	case DeedCollect:
		return api.Path{}, t.collect(d.Who)
	case DeedMend:
		return d.Path, t.mend(d)
	}
	return api.Path{}, api.ErrArg
}

// add adds an object of an archive.
func (t *turn) add(d Deed) (api.Path, api.Errno) {
	if _, e := pack.Open(d.Bytes); e != api.OK {
		return api.Path{}, api.ErrShape
	}
	o, own, e := name.Make(d.Name, d.Bytes, d.Self, d.Of...)
	if e != api.OK {
		return api.Path{}, e
	}
	return o.Path, t.take(d.Who, o, own)
}

// take has a user hold an object of these bytes, be it there or not.
func (t *turn) take(who int, o api.Object, own []byte) api.Errno {
	if !t.holds(who, o.Refs...) {
		return api.ErrRefs
	}
	if !t.holds(who, o.Path) {
		if e := t.room(who, 1, o.Size); e != api.OK {
			return e
		}
	}
	isThere := t.has(o.Path)
	// Of another object of its path the shelf tells ErrHash.
	if e := t.shelf.Add(o, who); e != api.OK {
		return e
	}
	if isThere {
		return t.compare(o.Path, own)
	}
	t.keep(o.Path, own)
	return api.OK
}

// adopt has a user hold an object that is there, and all that it needs.
func (t *turn) adopt(who int, p api.Path) api.Errno {
	if !t.has(p) {
		return api.ErrNone
	}
	l, e := graph.Closure(t.objects(), p)
	if e != api.OK {
		return e
	}
	l = slices.DeleteFunc(l, func(p api.Path) bool { return t.holds(who, p) })
	if e := t.room(who, len(l), t.size(l...)); e != api.OK {
		return e
	}
	for _, p := range l {
		t.shelf.Hold(p, who)
	}
	return api.OK
}

// root keeps what a user holds by a name.
func (t *turn) root(d Deed) api.Errno {
	if !t.holds(d.Who, d.Path) {
		return api.ErrRefs
	}
	return t.view.Root(d.Who, d.Name, d.Path)
}

// collect has a user let go what its roots do not need.
func (t *turn) collect(who int) api.Errno {
	var roots []api.Path
	for _, root := range t.view.Roots(who) {
		roots = append(roots, root.Path)
	}
	_, e := sweep.Do(t.shelf, who, roots...)
	return e
}

// mend writes an object's own bytes anew.
func (t *turn) mend(d Deed) api.Errno {
	if !t.holds(d.Who, d.Path) {
		return api.ErrNone
	}
	if x, _ := t.shelf.Find(d.Path); name.Check(x.Object, d.Bytes) != api.OK {
		return api.ErrHash
	}
	t.keep(d.Path, d.Bytes)
	return api.OK
}
