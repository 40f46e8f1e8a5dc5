package sweep

import (
	"iter"

	"spence/api"
	"spence/cas"
)

// everybody is of whom a shelf tells all that is there.
const everybody = 0

// isHolder says whether a number is a holder.
func isHolder(who int) bool {
	return who >= 1 && who <= api.MaxUsers
}

// holds says whether a holder holds all of these.
func holds(s *cas.Shelf, who int, l ...api.Path) bool {
	for _, p := range l {
		if !s.Has(p, who) {
			return false
		}
	}
	return true
}

// items goes through what there is of paths, in their order.
func items(s *cas.Shelf, l ...api.Path) iter.Seq[cas.Item] {
	return func(yield func(cas.Item) bool) {
		for _, p := range l {
			if x, e := s.Find(p); e == api.OK && !yield(x) {
				return
			}
		}
	}
}

// objects goes through those of paths, in their order.
func objects(s *cas.Shelf, l ...api.Path) iter.Seq[api.Object] {
	return func(yield func(api.Object) bool) {
		for x := range items(s, l...) {
			if !yield(x.Object) {
				return
			}
		}
	}
}
