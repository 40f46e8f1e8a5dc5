package view

import (
	"iter"
	"slices"
	"strings"

	"spence/api"
)

// place is where something stands in a book: a user's, by a name.
type place struct {
	who  int
	name string
}

// book is what users have, by names.
type book[T any] struct {
	there map[place]T
	// many is how many of them a user has.
	many map[int]int
}

// newBook is a book in which nothing stands.
func newBook[T any]() *book[T] {
	return &book[T]{there: map[place]T{}, many: map[int]int{}}
}

// put puts x there, whatever stood there. A user may have as many as most.
func (b *book[T]) put(at place, x T, most int) api.Errno {
	if _, ok := b.there[at]; !ok {
		if b.many[at.who] >= most {
			return api.ErrQuota
		}
		b.many[at.who]++
	}
	b.there[at] = x
	return api.OK
}

// take takes away what stands there.
func (b *book[T]) take(at place) (T, api.Errno) {
	x, ok := b.there[at]
	if !ok {
		return x, api.ErrNone
	}
	delete(b.there, at)
	b.many[at.who]--
	return x, api.OK
}

// of goes through a user's, whose names begin with prefix, in order by these.
func (b *book[T]) of(who int, prefix string) iter.Seq2[string, T] {
	return func(yield func(string, T) bool) {
		for _, name := range b.names(who, prefix) {
			if !yield(name, b.there[place{who, name}]) {
				return
			}
		}
	}
}

// names are those of a user's that begin with prefix, in order.
func (b *book[T]) names(who int, prefix string) []string {
	var l []string
	for at := range b.there {
		if at.who == who && strings.HasPrefix(at.name, prefix) {
			l = append(l, at.name)
		}
	}
	slices.Sort(l)
	return l
}
