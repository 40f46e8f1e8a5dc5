package tree_test

import (
	"bytes"
	"fmt"
	"maps"
	"math/rand"
	"slices"
	"strings"
	"testing"

	"spence/api"
	"spence/tree"
)

// want asks that a call told this error.
func want(t *testing.T, what string, got, e api.Errno) {
	t.Helper()
	if got != e {
		t.Errorf("%s: %d, not %d", what, got, e)
	}
}

func file(s string) api.Node { return api.Node{Kind: api.KindFile, Bytes: []byte(s)} }
func exec(s string) api.Node { return api.Node{Kind: api.KindExec, Bytes: []byte(s)} }
func link(s string) api.Node { return api.Node{Kind: api.KindLink, Bytes: []byte(s)} }

func dir(l ...api.Kid) api.Node           { return api.Node{Kind: api.KindDir, Kids: l} }
func kid(name string, n api.Node) api.Kid { return api.Kid{Name: name, Node: n} }

// sample is a tree with all kinds.
func sample() api.Node {
	return dir(
		kid("a", file("one")),
		kid("b", dir(
			kid("a", exec("two")),
			kid("c", dir()),
			kid("d", dir(kid("x", link("a")), kid("y", file("")))),
		)),
		kid("c", link("b/a")),
	)
}

// flat is a directory of so many files.
func flat(many int) api.Node {
	n := dir()
	for i := range many {
		n.Kids = append(n.Kids, kid(fmt.Sprintf("n%06d", i), file("")))
	}
	return n
}

// deep is a node below so many directories, each the only kid a of another one.
func deep(many int, n api.Node) api.Node {
	for range many {
		n = dir(kid("a", n))
	}
	return n
}

// longWay is a way of so many names a.
func longWay(many int) string {
	return strings.TrimSuffix(strings.Repeat("a/", many), "/")
}

// plain is a tree as its nodes' texts, a kind's letter ahead of the bytes, by ways with a slash ahead of each name.
type plain map[string]string

// plainOf is a finite tree, whichever it is.
func plainOf(n api.Node) plain {
	p := plain{}
	plainInto(p, "", n)
	return p
}

func plainInto(p plain, way string, n api.Node) {
	p[way] = string(rune('0'+n.Kind)) + string(n.Bytes)
	for _, k := range n.Kids {
		plainInto(p, way+"/"+k.Name, k.Node)
	}
}

// isDir says whether there is a directory at a way.
func (p plain) isDir(way string) bool { return p[way] == "4" }

// kidsOf are the names of those just below a way, in order.
func (p plain) kidsOf(way string) []string {
	var l []string
	for x := range p {
		if name, ok := strings.CutPrefix(x, way+"/"); ok && !strings.Contains(name, "/") {
			l = append(l, name)
		}
	}
	slices.Sort(l)
	return l
}

// tree is the tree again.
func (p plain) tree(way string) api.Node {
	text := p[way]
	n := api.Node{Kind: api.Kind(text[0] - '0'), Bytes: []byte(text[1:])}
	for _, name := range p.kidsOf(way) {
		n.Kids = append(n.Kids, kid(name, p.tree(way+"/"+name)))
	}
	return n
}

// has says whether a way is that one, or leads through it.
func has(way, through string) bool {
	return way == through || strings.HasPrefix(way, through+"/")
}

// without is the tree without what is at a way.
func (p plain) without(way string) plain {
	q := maps.Clone(p)
	maps.DeleteFunc(q, func(x, _ string) bool { return has(x, way) })
	return q
}

// isLong says whether there are too many nodes, or they are too deep.
func (p plain) isLong() bool {
	most := 0
	for way := range p {
		most = max(most, 1+strings.Count(way, "/"))
	}
	return len(p) > 200 || most > 8
}

// key is a right way, by the slashes that plain has.
func key(way string) string {
	if way == "" {
		return ""
	}
	return "/" + way
}

// ahead are the ways of fewer names, the empty one first; of the empty one there are none.
func ahead(way string) []string {
	var l []string
	for i, b := range way {
		if b == '/' {
			l = append(l, way[:i])
		}
	}
	return l
}

// put is what Put of a right tree, a right way and a right tree is to tell.
func (p plain) put(way string, x api.Node) (plain, api.Errno) {
	way = key(way)
	for _, up := range ahead(way) {
		if _, ok := p[up]; ok && !p.isDir(up) {
			return nil, api.ErrKnown
		}
	}
	q := p.without(way)
	for _, up := range ahead(way) {
		q[up] = "4"
	}
	plainInto(q, way, x)
	if q.isLong() {
		return nil, api.ErrLong
	}
	return q, api.OK
}

// take is what Take of a right tree and a right way is to tell.
func (p plain) take(way string) (plain, api.Errno) {
	if _, ok := p[key(way)]; !ok || way == "" {
		return nil, api.ErrNone
	}
	return p.without(key(way)), api.OK
}

// find is what Find of a right tree and a right way is to tell.
func (p plain) find(way string) (plain, api.Errno) {
	q := plain{}
	for x, text := range p {
		if has(x, key(way)) {
			q[x[len(key(way)):]] = text
		}
	}
	if len(q) == 0 {
		return nil, api.ErrNone
	}
	return q, api.OK
}

// isZero says whether a node is none.
func isZero(n api.Node) bool {
	return n.Kind == 0 && len(n.Bytes) == 0 && len(n.Kids) == 0
}

// isOne says whether finite trees are one, node by node.
func isOne(a, b api.Node) bool {
	if a.Kind != b.Kind || !bytes.Equal(a.Bytes, b.Bytes) || len(a.Kids) != len(b.Kids) {
		return false
	}
	for i, k := range a.Kids {
		if k.Name != b.Kids[i].Name || !isOne(k.Node, b.Kids[i].Node) {
			return false
		}
	}
	return true
}

// wantNode asks that a call told this tree and OK.
func wantNode(t *testing.T, what string, got api.Node, e api.Errno, n api.Node) {
	t.Helper()
	want(t, what, e, api.OK)
	if !isOne(got, n) {
		t.Errorf("%s: %v, not %v", what, got, n)
	}
}

// wantNone asks that a call told this error, and no tree.
func wantNone(t *testing.T, what string, got api.Node, e, w api.Errno) {
	t.Helper()
	want(t, what, e, w)
	if !isZero(got) {
		t.Errorf("%s: %v beside an error", what, got)
	}
}

// wantPlain asks that a call told a tree and an error that are plainly right.
func wantPlain(t *testing.T, what string, got api.Node, e api.Errno, p plain, w api.Errno) {
	t.Helper()
	if w != api.OK {
		wantNone(t, what, got, e, w)
		return
	}
	wantNode(t, what, got, e, p.tree(""))
}

// someName is one out of few names by chance: rows of them meet.
func someName(r *rand.Rand) string {
	return []string{"a", "b", "B", "a.", "a-", "aa", "0", "_", "+x"}[r.Intn(9)]
}

// someWay is one of few names by chance.
func someWay(r *rand.Rand, most int) string {
	var l []string
	for range r.Intn(most + 1) {
		l = append(l, someName(r))
	}
	return strings.Join(l, "/")
}

// someNode is a right tree by chance, at most so deep.
func someNode(r *rand.Rand, most int) api.Node {
	switch kind := r.Intn(8); {
	case kind == 0:
		return file(strings.Repeat("f", r.Intn(5)))
	case kind == 1:
		return exec(strings.Repeat("e", r.Intn(5)))
	case kind == 2:
		return link(strings.Repeat("l", 1+r.Intn(4)))
	case most <= 1:
		return dir()
	}
	names := map[string]int{}
	for range r.Intn(4) {
		names[someName(r)]++
	}
	n := dir()
	for _, name := range slices.Sorted(maps.Keys(names)) {
		n.Kids = append(n.Kids, kid(name, someNode(r, most-1)))
	}
	return n
}

// nodesOf are pointers to all nodes of a finite tree.
func nodesOf(n *api.Node) []*api.Node {
	l := []*api.Node{n}
	for i := range n.Kids {
		l = append(l, nodesOf(&n.Kids[i].Node)...)
	}
	return l
}

// endless are trees without an end, or of far too many nodes; none is right.
func endless() map[string]api.Node {
	loop := dir(kid("a", api.Node{}))
	loop.Kids[0].Node = loop
	wide := dir(kid("a", api.Node{}), kid("b", api.Node{}), kid("c", file("")))
	wide.Kids[0].Node, wide.Kids[1].Node = wide, wide
	odd := api.Node{Kind: api.KindFile, Kids: make([]api.Kid, 1)}
	odd.Kids[0] = kid("a", odd)
	later := dir(kid("a", dir()), kid("b", loop))
	shared := file("")
	for range 6 {
		shared = dir(slices.Repeat([]api.Kid{kid("", shared)}, 150)...)
		for i := range shared.Kids {
			shared.Kids[i].Name = fmt.Sprintf("n%03d", i)
		}
	}
	return map[string]api.Node{
		"one that holds itself":              loop,
		"one that holds itself twice":        wide,
		"a file that holds itself":           odd,
		"one that holds itself behind a kid": later,
		"one that has all kids often":        shared,
		"one of very many kids":              flat(100000),
		"one that is very deep":              deep(100000, file("")),
	}
}

// wrongNodes are nodes that no tree has.
func wrongNodes() map[string]api.Node {
	l := map[string]api.Node{
		"zero":                          {},
		"of no kind, with bytes":        {Bytes: []byte("a")},
		"of no kind, with kids":         {Kids: []api.Kid{kid("a", file(""))}},
		"a file too long":               file(strings.Repeat("x", api.MaxFile+1)),
		"a file far too long":           file(strings.Repeat("x", 1<<20)),
		"an executable too long":        exec(strings.Repeat("x", api.MaxFile+1)),
		"a link too long":               link(strings.Repeat("x", 201)),
		"a link as long as a file":      link(strings.Repeat("x", api.MaxFile)),
		"a link without bytes":          link(""),
		"a link with nil":               {Kind: api.KindLink},
		"a file with a kid":             {Kind: api.KindFile, Kids: []api.Kid{kid("a", file(""))}},
		"a file with bytes and a kid":   {Kind: api.KindFile, Bytes: []byte("a"), Kids: []api.Kid{kid("a", file(""))}},
		"an executable with a kid":      {Kind: api.KindExec, Kids: []api.Kid{kid("a", file(""))}},
		"a link with a kid":             {Kind: api.KindLink, Bytes: []byte("a"), Kids: []api.Kid{kid("a", file(""))}},
		"a directory with a byte":       {Kind: api.KindDir, Bytes: []byte("a")},
		"a directory with bytes, a kid": {Kind: api.KindDir, Bytes: []byte("a"), Kids: []api.Kid{kid("a", file(""))}},
		"names that fall":               dir(kid("b", file("")), kid("a", file(""))),
		"a name twice":                  dir(kid("a", file("")), kid("a", file(""))),
		"a name twice, kinds apart":     dir(kid("a", dir()), kid("a", file(""))),
		"a name twice, at the end":      dir(kid("a", file("")), kid("b", file("")), kid("b", file(""))),
		"a name again, later":           dir(kid("a", file("")), kid("b", file("")), kid("a", file(""))),
		"names that fall at the end":    dir(kid("a", file("")), kid("c", file("")), kid("b", file(""))),
		"letters, small ones first":     dir(kid("a", file("")), kid("B", file(""))),
		"a longer name first":           dir(kid("aa", file("")), kid("a", file(""))),
		"a number's value, not letters": dir(kid("9", file("")), kid("10", file(""))),
		"a kid that is none":            dir(kid("a", api.Node{})),
		"a last kid that is none":       dir(kid("a", file("")), kid("b", api.Node{Kind: 5})),
	}
	for _, kind := range []api.Kind{-1, 5, 6, 7, 8, 40, 260, -4, 1 << 40, 1<<63 - 1, -1 << 63} {
		l[fmt.Sprintf("of kind %d", kind)] = api.Node{Kind: kind}
		l[fmt.Sprintf("of kind %d, with a byte", kind)] = api.Node{Kind: kind, Bytes: []byte("a")}
	}
	for _, name := range wrongNames() {
		l[fmt.Sprintf("the name %.40q", name)] = dir(kid(name, file("")))
		l[fmt.Sprintf("the name %.40q behind +", name)] = dir(kid("+", file("")), kid(name, file("")))
	}
	return l
}

// wrongNames are texts that are no names.
func wrongNames() []string {
	return []string{"", ".", "..", ".a", "a b", " ", "a/b", "/", "a/", "/a", "a\x00", "a\n", "é", "z\xff", "~", strings.Repeat("n", api.MaxName+1), strings.Repeat("n", 5000)}
}

// wrongTrees are all trees that are not right, too large ones among them.
func wrongTrees() map[string]api.Node {
	l := endless()
	maps.Copy(l, wrongNodes())
	l["one node too many"] = flat(api.MaxNodes)
	l["one too deep"] = deep(api.MaxDepth, file(""))
	l["one directory too deep"] = deep(api.MaxDepth, dir())
	return l
}

// wrongWays are texts that are no ways.
func wrongWays() []string {
	l := []string{"/", "//", "a/", "/a", "a//b", "a/b/", "/a/b", "a/./b", "a/../b", "./a", "../a", "a/.", "a/..", "a/.b/c", "a\\b/c d", "a/b\x00", "a/é/b", longWay(9) + "/", strings.Repeat("/", 5000), longWay(5000) + "/."}
	for _, name := range wrongNames() {
		if !strings.Contains(name, "/") && name != "" {
			l = append(l, name, name+"/a", "a/"+name, "a/"+name+"/b")
		}
	}
	return l
}

// findAt is the node at a way; there is one.
func findAt(t *testing.T, n api.Node, way string) api.Node {
	t.Helper()
	x, e := tree.Find(n, way)
	want(t, "Find of "+way, e, api.OK)
	return x
}
