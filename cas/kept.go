package cas

import (
	"iter"
	"slices"

	"spence/api"
)

// everybody is who has all that is there, where one asks what a holder has; it holds nothing itself.
const everybody = 0

// holders are bits, from the first holder's on, the lowest one.
type holders uint

// isHolder says whether a number is a holder.
func isHolder(who int) bool {
	return who >= 1 && who <= api.MaxUsers
}

// bitOf is a holder's; of others there is none.
func bitOf(who int) holders {
	if !isHolder(who) {
		return 0
	}
	return 1 << (who - 1)
}

// has says whether who is one of them.
func (h *holders) has(who int) bool {
	return *h&bitOf(who) != 0
}

// some says whether there are any.
func (h *holders) some() bool {
	return *h != 0
}

// hold has who be one of them.
func (h *holders) hold(who int) {
	*h |= bitOf(who)
}

// let has who be none of them.
func (h *holders) let(who int) {
	*h &^= bitOf(who)
}

// all goes through them, rising.
func (h *holders) all() iter.Seq[int] {
	return func(yield func(int) bool) {
		for who := 1; who <= api.MaxUsers; who++ {
			if h.has(who) && !yield(who) {
				return
			}
		}
	}
}

// kept is an object, who holds it, and where its bytes lie.
type kept struct {
	api.Object
	holders
	runs []api.Run
}

// is says whether an object of the same path is this one.
func (k *kept) is(o api.Object) bool {
	return k.Size == o.Size && k.Self == o.Self && slices.Equal(k.Refs, o.Refs)
}

// item is what is told of it, in new memory.
func (k *kept) item() Item {
	o := k.Object
	o.Refs = copyOf(o.Refs)
	t := Item{Object: o, Runs: copyOf(k.runs)}
	for who := range k.all() {
		t.Holders = append(t.Holders, who)
	}
	return t
}
