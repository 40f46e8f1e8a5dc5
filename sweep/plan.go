package sweep

import (
	"slices"

	"spence/api"
	"spence/cas"
	"spence/graph"
)

// need is paths that are needed.
type need map[api.Path]struct{}

// needOf are these paths.
func needOf(l ...api.Path) need {
	n := need{}
	for _, p := range l {
		n[p] = struct{}{}
	}
	return n
}

// has says whether a path is needed.
func (n need) has(p api.Path) bool {
	_, ok := n[p]
	return ok
}

// orderOf are idle paths of a holder, each ahead of all that it refers to, or the error of a ring among them.
func orderOf(s *cas.Shelf, isNeeded func(api.Path) bool, idle ...api.Path) ([]api.Path, api.Errno) {
	var l []api.Object
	for o := range objects(s, idle...) {
		// What is held is whole, so all refs are needed or idle. Those that are needed are no part of the order, and their rings are no fault.
		o.Refs = slices.DeleteFunc(o.Refs, isNeeded)
		l = append(l, o)
	}
	order, e := graph.Order(l, idle...)
	slices.Reverse(order)
	return order, e
}

// planOf lets one of their holders let these go.
func planOf(s *cas.Shelf, idle ...api.Path) Plan {
	p := Plan{Idle: idle}
	for x := range items(s, p.Idle...) {
		p.Objects++
		p.Bytes += x.Object.Size
		if len(x.Holders) == 1 {
			p.Gone = append(p.Gone, x.Object.Path)
			p.Freed += x.Object.Size
		}
	}
	return p
}
