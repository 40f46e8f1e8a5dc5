package graph

import (
	"spence/api"
	"spence/base"
)

// stage is how far a path has come.
type stage int

// Stages, in which no path goes back.
const (
	fresh  stage = iota // not met yet
	opened              // what it refers to is gone through
	told                // it is told, and all that it refers to ahead of it
)

// step is an opened path, and which of its refs comes next.
type step struct {
	path api.Path
	next int
}

// walk is an order that is being made. Its steps are a pile of its own, as long as refs may be, so that nothing hangs on how deep calls go.
type walk struct {
	graph
	stages map[api.Path]stage
	steps  []step
	order  []api.Path
}

// order is a closure's, which is whole, or the error of a ring in it.
func (g graph) order(from ...api.Path) ([]api.Path, api.Errno) {
	w := walk{graph: g, stages: map[api.Path]stage{}}
	for _, p := range base.Sorted(from...) {
		if w.stages[p] == told {
			continue
		}
		if e := w.through(p); e != api.OK {
			return nil, e
		}
	}
	return w.order, api.OK
}

// through goes through a fresh path, and all that it refers to and that is not told yet.
func (w *walk) through(p api.Path) api.Errno {
	w.open(p)
steps:
	for len(w.steps) > 0 {
		s := &w.steps[len(w.steps)-1]
		for refs := w.graph[s.path].Refs; s.next < len(refs); {
			ref := refs[s.next]
			s.next++
			switch w.stages[ref] {
			case opened:
				return api.ErrShape
			case fresh:
				w.open(ref)
				continue steps
			}
		}
		w.tell(s.path)
	}
	return api.OK
}

// open has a fresh path be gone through next.
func (w *walk) open(p api.Path) {
	w.stages[p] = opened
	w.steps = append(w.steps, step{path: p})
}

// tell has the last opened path be told.
func (w *walk) tell(p api.Path) {
	w.stages[p] = told
	w.steps = w.steps[:len(w.steps)-1]
	w.order = append(w.order, p)
}
