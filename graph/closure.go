package graph

import (
	"iter"

	"spence/api"
	"spence/base"
	"spence/name"
)

// most is how many objects a graph has at most.
const most = 2000

// graph is objects by their paths.
type graph map[api.Path]api.Object

// of is the graph that a list is, or the error of one that is none.
func of(l []api.Object) (graph, api.Errno) {
	if len(l) > most {
		return nil, api.ErrArg
	}
	g := graph{}
	for _, o := range l {
		if !name.Right(o) || g.has(o.Path) {
			return nil, api.ErrArg
		}
		g[o.Path] = o
	}
	return g, api.OK
}

// has says whether there is an object of a path.
func (g graph) has(p api.Path) bool {
	_, ok := g[p]
	return ok
}

// closure goes through a closure's paths, each once, in no order that may be told.
func (g graph) closure(from ...api.Path) iter.Seq[api.Path] {
	return func(yield func(api.Path) bool) {
		met := map[api.Path]struct{}{}
		var ahead []api.Path
		meet := func(l []api.Path) {
			for _, p := range l {
				if _, ok := met[p]; !ok {
					met[p] = struct{}{}
					ahead = append(ahead, p)
				}
			}
		}
		meet(from)
		for i := 0; i < len(ahead); i++ {
			if !yield(ahead[i]) {
				return
			}
			meet(g[ahead[i]].Refs)
		}
	}
}

// whole is a closure in order, or the error of one that is not whole.
func (g graph) whole(from ...api.Path) ([]api.Path, api.Errno) {
	var l []api.Path
	for p := range g.closure(from...) {
		if !g.has(p) {
			return nil, api.ErrRefs
		}
		l = append(l, p)
	}
	return base.Sorted(l...), api.OK
}
