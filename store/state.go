package store

import (
	"bytes"
	"maps"

	"spence/api"
	"spence/blob"
	"spence/cas"
	"spence/sweep"
	"spence/view"
)

// everybody is of whom a shelf tells all that is there.
const everybody = 0

// state is what users have, and the disk on which it lies.
type state struct {
	*disk
	// view has users, their quotas, roots and notes.
	view *view.View
	// shelf has objects, who holds them, and where their bytes lie.
	shelf *cas.Shelf
}

// copied is the same state in memory of its own, on the same disk.
func (s state) copied() state {
	c := state{disk: s.disk, shelf: &cas.Shelf{}}
	// What is in a state may be put in another one.
	c.view, _ = view.New(s.quotas()...)
	for _, x := range s.items() {
		for _, who := range x.Holders {
			c.shelf.Add(x.Object, who, x.Runs...)
		}
	}
	for _, who := range s.users() {
		for _, root := range s.view.Roots(who) {
			c.view.Root(who, root.Name, root.Path)
		}
		for _, note := range s.view.Notes(who, "") {
			c.view.Note(who, note.Key, note.Val)
		}
	}
	return c
}

// users are their numbers, rising.
func (s state) users() []int {
	var l []int
	for i := range s.view.Users() {
		l = append(l, i+1)
	}
	return l
}

// quotas are all users', in order.
func (s state) quotas() []api.Quota {
	var l []api.Quota
	for _, who := range s.users() {
		q, _ := s.view.Quota(who)
		l = append(l, q)
	}
	return l
}

// items are all objects, by the order of their paths.
func (s state) items() []cas.Item {
	var l []cas.Item
	for _, p := range s.shelf.Of(everybody) {
		if x, e := s.shelf.Find(p); e == api.OK {
			l = append(l, x)
		}
	}
	return l
}

// objects are all that there are.
func (s state) objects() []api.Object {
	var l []api.Object
	for _, x := range s.items() {
		l = append(l, x.Object)
	}
	return l
}

// has says whether there is an object of a path.
func (s state) has(p api.Path) bool {
	_, e := s.shelf.Find(p)
	return e == api.OK
}

// holds says whether a user holds all of these.
func (s state) holds(who int, l ...api.Path) bool {
	for _, p := range l {
		if !s.shelf.Has(p, who) {
			return false
		}
	}
	return true
}

// room says whether a user may have so many objects, and bytes, more than it has.
func (s state) room(who, objects, bytes int) api.Errno {
	hasObjects, hasBytes := s.shelf.Sizes(who)
	return s.view.Room(who, hasObjects+objects, hasBytes+bytes)
}

// size is how many bytes the objects of these paths have.
func (s state) size(l ...api.Path) int {
	many := 0
	for _, p := range l {
		x, _ := s.shelf.Find(p)
		many += x.Object.Size
	}
	return many
}

// read is an object's bytes.
func (s state) read(p api.Path) ([]byte, api.Errno) {
	x, e := s.shelf.Find(p)
	if e != api.OK {
		return nil, e
	}
	return s.get(x.Object.Size, x.Runs...)
}

// isRight says whether rows are right of which s is the state.
func (s state) isRight(r rows) bool {
	// What is no row of users, objects, roots or notes is lost in their state, so rows that are not just its own are not right.
	if view.Fits(s.shape, s.quotas()...) != api.OK || !maps.EqualFunc(r, s.rows(), bytes.Equal) {
		return false
	}
	for _, who := range s.users() {
		if !sweep.Whole(s.shelf, who) || s.room(who, 0, 0) != api.OK || !s.rootsHold(who) {
			return false
		}
	}
	return s.lies()
}

// rootsHold says whether a user holds what its roots are of.
func (s state) rootsHold(who int) bool {
	for _, root := range s.view.Roots(who) {
		if !s.holds(who, root.Path) {
			return false
		}
	}
	return true
}

// lies says whether all bytes lie apart, each object's in as many sectors as they need.
func (s state) lies() bool {
	if !blob.Apart(s.shape, s.shelf.Runs()...) {
		return false
	}
	for _, x := range s.items() {
		many := 0
		for _, run := range x.Runs {
			many += run.Many
		}
		if many != blob.Need(x.Object.Size) {
			return false
		}
	}
	return true
}
