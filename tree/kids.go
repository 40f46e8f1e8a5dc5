package tree

import (
	"slices"
	"strings"

	"spence/api"
)

// place is where a kid of that name stands, or would stand, and whether there is one.
func place(l []api.Kid, name string) (int, bool) {
	return slices.BinarySearchFunc(l, name, func(k api.Kid, name string) int {
		return strings.Compare(k.Name, name)
	})
}

// below is the node of a right tree to which names lead, if there is one.
func below(n api.Node, names ...string) (api.Node, bool) {
	for _, name := range names {
		// What is no directory has no kids.
		at, ok := place(n.Kids, name)
		if !ok {
			return api.Node{}, false
		}
		n = n.Kids[at].Node
	}
	return n, true
}

// isBarred says whether a node of a right tree, ahead of the one to which names lead, is no directory.
func isBarred(n api.Node, names []string) bool {
	for _, name := range names {
		if n.Kind != api.KindDir {
			return true
		}
		x, ok := below(n, name)
		if !ok {
			return false
		}
		n = x
	}
	return false
}

// with is a directory in which these kids, one or none, stand in place of what names lead to; directories that are missing are made. It shares memory with what it is given.
func with(dir api.Node, names []string, l ...api.Kid) api.Node {
	at, known := place(dir.Kids, names[0])
	behind := at
	next := api.Node{Kind: api.KindDir}
	if known {
		next = dir.Kids[at].Node
		behind++
	}
	if len(names) > 1 {
		l = []api.Kid{{Name: names[0], Node: with(next, names[1:], l...)}}
	}
	return api.Node{Kind: api.KindDir, Kids: slices.Concat(dir.Kids[:at], l, dir.Kids[behind:])}
}
