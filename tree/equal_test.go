package tree_test

import (
	"fmt"
	"math/rand"
	"slices"
	"testing"

	"spence/api"
	"spence/tree"
)

// P8.1: right trees are equal to themselves and to their copies, and to no other one.
func TestEqual(t *testing.T) {
	l := []api.Node{
		file(""), file("a"), file("b"), file("aa"), exec(""), exec("a"), link("a"), link("b"), dir(),
		dir(kid("a", file(""))), dir(kid("b", file(""))), dir(kid("a", file("a"))), dir(kid("a", exec(""))), dir(kid("a", dir())),
		dir(kid("a", file("")), kid("b", file(""))), dir(kid("a", file("")), kid("c", file(""))), dir(kid("a", file("")), kid("b", exec(""))), dir(kid("a", exec("")), kid("b", file(""))),
		dir(kid("a", dir(kid("b", file(""))))), dir(kid("a", dir()), kid("b", file(""))), dir(kid("a", dir(kid("a", file(""))))),
		sample(), flat(199), flat(198), deep(7, file("")), deep(7, dir()), deep(6, file("")), deep(7, file("x")),
	}
	for i, a := range l {
		for k, b := range l {
			if tree.Equal(a, b) != (i == k) || tree.Equal(tree.Copy(a), b) != (i == k) {
				t.Errorf("%d and %d: %t", i, k, tree.Equal(a, b))
			}
		}
	}
}

// P8.1, R6: no bytes and nil, no kids and nil are one.
func TestEqualWithoutElements(t *testing.T) {
	for _, kind := range []api.Kind{api.KindFile, api.KindExec, api.KindDir} {
		a := api.Node{Kind: kind}
		b := api.Node{Kind: kind, Bytes: []byte{}, Kids: []api.Kid{}}
		c := api.Node{Kind: kind, Bytes: []byte("abc")[:0], Kids: []api.Kid{kid("z", api.Node{})}[:0]}
		for _, x := range []api.Node{a, b, c} {
			for _, y := range []api.Node{a, b, c} {
				if !tree.Equal(x, y) || !tree.Equal(dir(kid("a", x)), dir(kid("a", y))) {
					t.Errorf("%d: %v is not %v", kind, x, y)
				}
			}
			if got := tree.Copy(x); !isOne(got, a) {
				t.Errorf("%d: the copy is %v", kind, got)
			}
			if got, want := fmt.Sprintf("%#v", tree.Copy(dir(kid("a", x)))), fmt.Sprintf("%#v", tree.Copy(dir(kid("a", a)))); got != want {
				t.Errorf("%d: told otherwise: %s, %s", kind, got, want)
			}
		}
	}
}

// P8.1: whatever of a tree is another one: they are not equal.
func TestEqualByChance(t *testing.T) {
	r := rand.New(rand.NewSource(2))
	unlike := 0
	for range 3000 {
		a := dir(kid("a", someNode(r, 6)), kid("b", someNode(r, 6)))
		b := tree.Copy(a)
		if !tree.Equal(a, b) || !isOne(a, b) {
			t.Fatalf("%v: copied %v", a, b)
		}
		all := nodesOf(&b)
		spoil(r, all[r.Intn(len(all))])
		if got := tree.Equal(a, b); got != (plainRight(b) && isOne(a, b)) || tree.Equal(b, a) != got {
			t.Fatalf("%v, %v: %t", a, b, got)
		}
		if plainRight(b) && !isOne(a, b) {
			unlike++
		}
	}
	if unlike < 200 {
		t.Errorf("%d of 3000 are right, and unlike", unlike)
	}
}

// scribble writes over all memory that a tree has, behind its lists' ends, too.
func scribble(n *api.Node) {
	b := n.Bytes[:cap(n.Bytes)]
	for i := range b {
		b[i] = '!'
	}
	l := n.Kids[:cap(n.Kids)]
	for i := range l {
		scribble(&l[i].Node)
		l[i] = kid("!", api.Node{Kind: 99})
	}
	n.Kind = 98
}

// roomy is a tree whose lists have room behind their ends, in which something stands.
func roomy(n api.Node) api.Node {
	b := append(slices.Clone(n.Bytes), "behind"...)
	l := make([]api.Kid, 0, len(n.Kids)+2)
	for _, k := range n.Kids {
		l = append(l, kid(k.Name, roomy(k.Node)))
	}
	return api.Node{Kind: n.Kind, Bytes: b[:len(n.Bytes)], Kids: append(l, kid("behind", file("x")), kid("behind", dir()))[:len(l)]}
}

// textOf tells a tree, and what stands behind its lists' ends.
func textOf(n api.Node) string {
	s := fmt.Sprintf("%d %q", n.Kind, n.Bytes[:cap(n.Bytes)])
	for _, k := range n.Kids[:cap(n.Kids)] {
		s += " " + k.Name + "(" + textOf(k.Node) + ")"
	}
	return s
}

// P8.1, R3: a copy is memory of its own: neither sees what is written to the other one.
func TestCopyIsItsOwn(t *testing.T) {
	for what, c := range rightTrees() {
		n := roomy(c.n)
		was := textOf(n)
		x := tree.Copy(n)
		if !isOne(x, c.n) {
			t.Errorf("%s: copied otherwise", what)
		}
		scribble(&x)
		if textOf(n) != was {
			t.Errorf("%s: what is written to a copy is seen", what)
		}
		x = tree.Copy(n)
		scribble(&n)
		if !isOne(x, c.n) {
			t.Errorf("%s: the copy sees what is written", what)
		}
	}
}

// R3: nodes that share memory are copied to ones that do not, and what is put twice, too.
func TestCopyPartsWhatShares(t *testing.T) {
	b := []byte("shared")
	l := []api.Kid{kid("x", api.Node{Kind: api.KindFile, Bytes: b}), kid("y", api.Node{Kind: api.KindExec, Bytes: b})}
	n := dir(kid("a", dir(l...)), kid("b", dir(l...)))
	wanted := dir(kid("a", dir(kid("x", file("shared")), kid("y", exec("shared")))), kid("b", dir(kid("x", file("shared")), kid("y", exec("shared")))))
	put, e := tree.Put(n, "c/d", dir(l...))
	want(t, "Put", e, api.OK)
	took, e := tree.Take(put, "c")
	want(t, "Take", e, api.OK)
	put.Kids = put.Kids[:2]
	for what, x := range map[string]api.Node{"Copy": tree.Copy(n), "Put": put, "Take": took} {
		scribble(&x.Kids[0].Node)
		if !isOne(x.Kids[1].Node, wanted.Kids[1].Node) {
			t.Errorf("%s: %v", what, x)
		}
	}
	x := tree.Copy(dir(l...))
	scribble(&x.Kids[0].Node)
	if !isOne(x.Kids[1].Node, exec("shared")) || string(b) != "shared" {
		t.Errorf("bytes of two: %v", x)
	}
}

// R3: what is told shares nothing with what was given; no argument is changed, nor what stands behind its lists' ends.
func TestCallsShareNothing(t *testing.T) {
	for _, way := range []string{"", "a", "b", "b/a", "b/c", "b/d", "b/d/x", "b/d/z", "b/e/f", "0", "z", "b/0", "c"} {
		n, x := roomy(sample()), roomy(dir(kid("k", file("v")), kid("l", dir())))
		wasN, wasX := textOf(n), textOf(x)
		for what, call := range map[string]func() (api.Node, api.Errno){
			"Find": func() (api.Node, api.Errno) { return tree.Find(n, way) },
			"Put":  func() (api.Node, api.Errno) { return tree.Put(n, way, x) },
			"Take": func() (api.Node, api.Errno) { return tree.Take(n, way) },
		} {
			first, e := call()
			text := textOf(tree.Copy(first))
			scribble(&first)
			if textOf(n) != wasN || textOf(x) != wasX {
				t.Fatalf("%s of %q: what is written to what it told is seen", what, way)
			}
			again, f := call()
			if textOf(tree.Copy(again)) != text || e != f {
				t.Errorf("%s of %q: told otherwise the second time", what, way)
			}
		}
		tree.Right(n)
		tree.Count(n)
		tree.Equal(n, x)
		ways := tree.Ways(n)
		for i := range ways {
			ways[i] = "!"
		}
		if textOf(n) != wasN || textOf(x) != wasX || len(ways) != 9 || tree.Ways(n)[0] != "" {
			t.Errorf("%q: something is changed", way)
		}
	}
}
