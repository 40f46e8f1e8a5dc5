package tree

import (
	"bytes"
	"iter"
	"slices"
	"strings"

	"spence/api"
	"spence/base"
)

// maxTarget is how many bytes a link's target has at most.
const maxTarget = 200

// mostBytes are how many bytes nodes have at most, by their kinds; there are no others.
func mostBytes() map[api.Kind]int {
	return map[api.Kind]int{
		api.KindFile: api.MaxFile,
		api.KindExec: api.MaxFile,
		api.KindLink: maxTarget,
		api.KindDir:  0,
	}
}

// fits says whether a node is what its kind asks for, apart from what is below it.
func fits(n api.Node, most map[api.Kind]int) bool {
	if many, ok := most[n.Kind]; !ok || len(n.Bytes) > many {
		return false
	}
	switch n.Kind {
	case api.KindDir:
		return rise(n.Kids)
	case api.KindLink:
		if len(n.Bytes) == 0 {
			return false
		}
		fallthrough
	default:
		return len(n.Kids) == 0
	}
}

// rise says whether kids' names are names that rise.
func rise(l []api.Kid) bool {
	last := ""
	for _, k := range l {
		// No name is of no letters: the first one rises, too.
		if !base.Name(k.Name) || k.Name <= last {
			return false
		}
		last = k.Name
	}
	return true
}

// all goes through a tree's nodes, each with the names of its way, which are good till the next one: each directory ahead of its kids, these in order.
func all(n api.Node) iter.Seq2[[]string, api.Node] {
	return func(yield func([]string, api.Node) bool) {
		var down func(names []string, x api.Node) bool
		down = func(names []string, x api.Node) bool {
			if !yield(names, x) {
				return false
			}
			for _, k := range x.Kids {
				if !down(append(names, k.Name), k.Node) {
					return false
				}
			}
			return true
		}
		down(make([]string, 0, api.MaxDepth), n)
	}
}

// same says whether right trees are one.
func same(a, b api.Node) bool {
	return a.Kind == b.Kind && bytes.Equal(a.Bytes, b.Bytes) && slices.EqualFunc(a.Kids, b.Kids, sameKid)
}

// sameKid says whether kids are one.
func sameKid(a, b api.Kid) bool {
	return a.Name == b.Name && same(a.Node, b.Node)
}

// copied is a right tree in memory of its own.
func copied(n api.Node) api.Node {
	// An append to nil, for no bytes are told as nil, whichever way n has none.
	c := api.Node{Kind: n.Kind, Bytes: append([]byte(nil), n.Bytes...)}
	for _, k := range n.Kids {
		c.Kids = append(c.Kids, api.Kid{Name: strings.Clone(k.Name), Node: copied(k.Node)})
	}
	return c
}
