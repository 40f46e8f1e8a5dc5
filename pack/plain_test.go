package pack_test

import (
	"bytes"
	"encoding/binary"
	"fmt"
	"maps"
	"math/rand"
	"slices"
	"strings"
	"testing"

	"spence/api"
	"spence/tree"
)

func file(s string) api.Node { return api.Node{Kind: api.KindFile, Bytes: []byte(s)} }
func exec(s string) api.Node { return api.Node{Kind: api.KindExec, Bytes: []byte(s)} }
func link(s string) api.Node { return api.Node{Kind: api.KindLink, Bytes: []byte(s)} }

func dir(l ...api.Kid) api.Node           { return api.Node{Kind: api.KindDir, Kids: l} }
func kid(name string, n api.Node) api.Kid { return api.Kid{Name: name, Node: n} }

// sample is a tree with all kinds.
func sample() api.Node {
	return dir(
		kid("a", file("one")),
		kid("b", dir(
			kid("a", exec("two")),
			kid("c", dir()),
			kid("d", dir(kid("x", link("a")), kid("y", file("")))),
		)),
		kid("c", link("b/a")),
	)
}

// flat is a directory of so many files, all with these bytes.
func flat(many int, s string) api.Node {
	n := dir()
	for i := range many {
		n.Kids = append(n.Kids, kid(fmt.Sprintf("n%03d", i), file(s)))
	}
	return n
}

// deep is a node below so many directories, each the only kid a of another one.
func deep(many int, n api.Node) api.Node {
	for range many {
		n = dir(kid("a", n))
	}
	return n
}

// long is a directory of files whose archive has just so many bytes, from 2200 to 6000.
func long(many int) api.Node {
	n := dir(kid("a", file(strings.Repeat("x", 2000))), kid("b", file("")), kid("c", exec("")))
	missing := many - len(plainPack(n))
	// Texts of 128 bytes and more have two bytes ahead.
	half := min(missing-1, 2000)
	n.Kids[1].Node = file(strings.Repeat("y", half))
	for len(plainPack(n)) < many {
		n.Kids[2].Node.Bytes = append(n.Kids[2].Node.Bytes, 'z')
	}
	return n
}

// plainPack is a finite tree's archive, right or not, after the chapter's words.
func plainPack(n api.Node) []byte {
	b := binary.AppendUvarint(nil, uint64(n.Kind))
	if n.Kind != 4 {
		return append(binary.AppendUvarint(b, uint64(len(n.Bytes))), n.Bytes...)
	}
	b = binary.AppendUvarint(b, uint64(len(n.Kids)))
	for _, k := range n.Kids {
		b = append(binary.AppendUvarint(b, uint64(len(k.Name))), k.Name...)
		b = append(b, plainPack(k.Node)...)
	}
	return b
}

// plainNum takes a number off b, whichever way it is written.
func plainNum(b []byte) (int, []byte, bool) {
	n, size := binary.Uvarint(b)
	if size <= 0 || n > 5000 {
		return 0, nil, false
	}
	return int(n), b[size:], true
}

// plainText takes a text off b.
func plainText(b []byte) (string, []byte, bool) {
	n, b, ok := plainNum(b)
	if !ok || n > len(b) {
		return "", nil, false
	}
	return string(b[:n]), b[n:], true
}

// plainNode takes a node off b.
func plainNode(b []byte) (api.Node, []byte, bool) {
	kind, b, ok := plainNum(b)
	n := api.Node{Kind: api.Kind(kind)}
	if !ok || kind < 1 || kind > 4 {
		return n, nil, false
	}
	if kind < 4 {
		s, rest, ok := plainText(b)
		n.Bytes = []byte(s)
		return n, rest, ok
	}
	many, b, ok := plainNum(b)
	for i := 0; i < many && ok; i++ {
		var k api.Kid
		if k.Name, b, ok = plainText(b); ok {
			k.Node, b, ok = plainNode(b)
		}
		n.Kids = append(n.Kids, k)
	}
	return n, b, ok
}

// plainOpen is the right tree whose archive b is: what is taken off b must be right, and its archive b again.
func plainOpen(b []byte) (api.Node, bool) {
	n, rest, ok := plainNode(b)
	if !ok || len(rest) > 0 || len(b) > 4096 || !tree.Right(n) || !bytes.Equal(plainPack(n), b) {
		return api.Node{}, false
	}
	return n, true
}

// isZero says whether a node is none.
func isZero(n api.Node) bool {
	return n.Kind == 0 && len(n.Bytes) == 0 && len(n.Kids) == 0
}

// want asks that a call told this error.
func want(t *testing.T, what string, got, e api.Errno) {
	t.Helper()
	if got != e {
		t.Errorf("%s: %d, not %d", what, got, e)
	}
}

// wantBytes asks that a call told these bytes and OK.
func wantBytes(t *testing.T, what string, got []byte, e api.Errno, b []byte) {
	t.Helper()
	want(t, what, e, api.OK)
	if !bytes.Equal(got, b) {
		t.Errorf("%s: %.80q, not %.80q", what, got, b)
	}
}

// wantNoBytes asks that a call told this error, and no bytes.
func wantNoBytes(t *testing.T, what string, got []byte, e, w api.Errno) {
	t.Helper()
	want(t, what, e, w)
	if len(got) != 0 {
		t.Errorf("%s: %.80q beside an error", what, got)
	}
}

// wantTree asks that a call told this right tree and OK.
func wantTree(t *testing.T, what string, got api.Node, e api.Errno, n api.Node) {
	t.Helper()
	want(t, what, e, api.OK)
	if !tree.Equal(got, n) {
		t.Errorf("%s: %.200v, not %.200v", what, got, n)
	}
}

// wantNoTree asks that a call told this error, and no tree.
func wantNoTree(t *testing.T, what string, got api.Node, e, w api.Errno) {
	t.Helper()
	want(t, what, e, w)
	if !isZero(got) {
		t.Errorf("%s: %.200v beside an error", what, got)
	}
}

// endless are trees without an end, or of far too many nodes; none is right.
func endless() map[string]api.Node {
	loop := dir(kid("a", api.Node{}))
	loop.Kids[0].Node = loop
	wide := dir(kid("a", api.Node{}), kid("b", api.Node{}))
	wide.Kids[0].Node, wide.Kids[1].Node = wide, wide
	return map[string]api.Node{
		"one that holds itself":              loop,
		"one that holds itself twice":        wide,
		"one that holds itself behind a kid": dir(kid("a", dir()), kid("b", loop)),
		"one of very many kids":              flat(100000, ""),
		"one that is very deep":              deep(100000, file("")),
	}
}

// wrongTrees are finite trees that are not right, with archives of at most 4096 bytes, were they right.
func wrongTrees() map[string]api.Node {
	return map[string]api.Node{
		"a file too long":            file(strings.Repeat("x", 2049)),
		"an executable too long":     exec(strings.Repeat("x", 2049)),
		"a link too long":            link(strings.Repeat("x", 201)),
		"a link without bytes":       link(""),
		"names that fall":            dir(kid("b", file("")), kid("a", file(""))),
		"a name twice":               dir(kid("a", file("")), kid("a", file(""))),
		"a longer name first":        dir(kid("aa", file("")), kid("a", file(""))),
		"small letters first":        dir(kid("a", file("")), kid("B", file(""))),
		"an empty name":              dir(kid("", file(""))),
		"a name with a dot first":    dir(kid(".a", file(""))),
		"a name with a slash":        dir(kid("a/b", file(""))),
		"a name with a nought":       dir(kid("a\x00", file(""))),
		"a name too long":            dir(kid(strings.Repeat("n", 25), file(""))),
		"one node too many":          flat(200, ""),
		"one too deep":               deep(8, file("")),
		"one directory too deep":     deep(8, dir()),
		"far too deep":               deep(900, file("")),
		"a wrong kid":                dir(kid("a", link(""))),
		"a wrong kid behind others":  dir(kid("a", sample()), kid("b", link(""))),
		"a wrong kid ahead":          dir(kid("a", link("")), kid("b", sample())),
		"a wrong one at the deepest": deep(7, link("")),
		"one of 201 nodes, in two":   dir(kid("a", flat(99, "")), kid("b", flat(99, ""))),
	}
}

// oddTrees are trees that are not right, and of which no bytes can tell.
func oddTrees() map[string]api.Node {
	return map[string]api.Node{
		"zero":                    {},
		"of no kind, with bytes":  {Bytes: []byte("a")},
		"of no kind, with kids":   {Kids: []api.Kid{kid("a", file(""))}},
		"of kind 5":               {Kind: 5},
		"of kind -1":              {Kind: -1},
		"of the greatest kind":    {Kind: 1<<63 - 1},
		"a file with a kid":       {Kind: api.KindFile, Kids: []api.Kid{kid("a", file(""))}},
		"a link with a kid":       {Kind: api.KindLink, Bytes: []byte("a"), Kids: []api.Kid{kid("a", file(""))}},
		"a directory with a byte": {Kind: api.KindDir, Bytes: []byte("a")},
		"a kid that is none":      dir(kid("a", api.Node{})),
		"a kid of kind 5":         dir(kid("a", api.Node{Kind: 5})),
		"both wrong and too long": dir(kid("a", file(strings.Repeat("x", 2048))), kid("b", file(strings.Repeat("x", 2048))), kid("c", link(""))),
		"a wrong one, far too long": dir(kid("a", flat(199, strings.Repeat("x", 2048))),
			kid("b", file(""))),
	}
}

// rightTrees are right, with archives of at most 4096 bytes.
func rightTrees() map[string]api.Node {
	return map[string]api.Node{
		"an empty file":          file(""),
		"a file of nil":          {Kind: api.KindFile},
		"a file, no kids":        {Kind: api.KindFile, Kids: []api.Kid{}},
		"a file":                 file("ab\x00\xff"),
		"a file of an archive":   file(string(plainPack(sample()))),
		"127 bytes":              file(strings.Repeat("x", 127)),
		"128 bytes":              file(strings.Repeat("x", 128)),
		"the longest file":       file(strings.Repeat("x", 2048)),
		"an empty executable":    exec(""),
		"the longest executable": exec(strings.Repeat("x", 2048)),
		"the shortest link":      link("a"),
		"a link of any bytes":    link("../\x00\xff//"),
		"the longest link":       link(strings.Repeat("x", 200)),
		"an empty directory":     dir(),
		"an empty one, not nil":  {Kind: api.KindDir, Kids: []api.Kid{}, Bytes: []byte{}},
		"a directory of one":     dir(kid("x", file("ab"))),
		"names in order":         dir(kid("+", dir()), kid("-", dir()), kid("10", dir()), kid("9", dir()), kid("A", dir()), kid("_", dir()), kid("a", dir()), kid("a-", dir()), kid("aa", dir())),
		"the longest name":       dir(kid(strings.Repeat("n", 24), file("a"))),
		"all kinds":              sample(),
		"the deepest file":       deep(7, file("abc")),
		"the deepest directory":  deep(7, dir()),
		"127 kids":               flat(127, ""),
		"128 kids":               flat(128, ""),
		"the most nodes":         flat(199, "12"),
		"the most nodes, deep":   deep(6, flat(193, "")),
		"the longest archive":    long(4096),
		"one less than that":     long(4095),
		"one kid's nodes twice":  dir(kid("a", sample()), kid("b", sample())),
		"the longest, deepest":   deep(6, long(4096-6*4)),
	}
}

// someName is one out of few names by chance.
func someName(r *rand.Rand) string {
	return []string{"a", "b", "B", "a.", "a-", "aa", "0", "_", "+x"}[r.Intn(9)]
}

// someNode is a right tree by chance, at most so deep.
func someNode(r *rand.Rand, most int) api.Node {
	switch kind := r.Intn(8); {
	case kind == 0:
		return file(strings.Repeat("f", r.Intn(5)))
	case kind == 1:
		return exec(strings.Repeat("e", r.Intn(200)))
	case kind == 2:
		return link(strings.Repeat("l", 1+r.Intn(4)))
	case most <= 1:
		return dir()
	}
	names := map[string]int{}
	for range r.Intn(4) {
		names[someName(r)]++
	}
	n := dir()
	for _, name := range slices.Sorted(maps.Keys(names)) {
		n.Kids = append(n.Kids, kid(name, someNode(r, most-1)))
	}
	return n
}
