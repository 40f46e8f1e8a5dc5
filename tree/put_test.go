package tree_test

import (
	"fmt"
	"math/rand"
	"slices"
	"strings"
	"testing"

	"spence/api"
	"spence/tree"
)

// P8.2, the chapter's example: a directory is made on the way.
func TestPutExample(t *testing.T) {
	n, e := tree.Put(dir(), "a/b", file("x"))
	wantNode(t, "Put", n, e, dir(kid("a", dir(kid("b", file("x"))))))
	if l := tree.Ways(n); !slices.Equal(l, []string{"", "a", "a/b"}) {
		t.Errorf("%q", l)
	}
}

// P8.2: the node at a way, or none.
func TestFind(t *testing.T) {
	n := sample()
	for _, c := range []struct {
		way string
		x   api.Node
	}{
		{"", n}, {"a", file("one")}, {"b", n.Kids[1].Node}, {"b/a", exec("two")}, {"b/c", dir()}, {"b/d", dir(kid("x", link("a")), kid("y", file("")))},
		{"b/d/x", link("a")}, {"b/d/y", file("")}, {"c", link("b/a")},
	} {
		x, e := tree.Find(n, c.way)
		wantNode(t, "Find of "+c.way, x, e, c.x)
	}
	for _, way := range []string{
		"d", "0", "A", "aa", "a-", "bb", "B", "z", "b/b", "b/0", "b/aa", "b/z", "b/d/a", "b/d/xx", "b/d/z", "b/c/a", "d/a", "b/b/a",
		"a/a", "a/b", "b/a/x", "b/d/x/a", "b/d/y/y", longWay(7), longWay(8), longWay(100000),
		// What a link tells is not followed.
		"c/a", "c/d",
	} {
		x, e := tree.Find(n, way)
		wantNone(t, "Find of "+way[:min(20, len(way))], x, e, api.ErrNone)
	}
	for _, n := range []api.Node{file("a"), exec(""), link("a"), dir(), deep(7, file(""))} {
		x, e := tree.Find(n, "")
		wantNode(t, "Find of nothing", x, e, n)
		x, e = tree.Find(n, "b")
		wantNone(t, "Find of b", x, e, api.ErrNone)
	}
	for many := range 8 {
		x, e := tree.Find(deep(7, file("end")), longWay(many))
		wantNode(t, "Find of the deepest", x, e, deep(7-many, file("end")))
	}
	x, e := tree.Find(deep(7, file("end")), longWay(8))
	wantNone(t, "Find of one too deep", x, e, api.ErrNone)
}

// P8.2: each name of a great directory is found, none between them.
func TestFindEach(t *testing.T) {
	n := flat(199)
	for i := range n.Kids {
		n.Kids[i].Node = file(n.Kids[i].Name)
	}
	for _, k := range n.Kids {
		x, e := tree.Find(n, k.Name)
		wantNode(t, "Find of "+k.Name, x, e, file(k.Name))
		x, e = tree.Find(n, k.Name+"-")
		wantNone(t, "Find behind "+k.Name, x, e, api.ErrNone)
		x, e = tree.Take(n, k.Name)
		want(t, "Take of "+k.Name, e, api.OK)
		if len(x.Kids) != 198 || slices.ContainsFunc(x.Kids, func(y api.Kid) bool { return y.Name == k.Name }) {
			t.Errorf("Take of %s: %d kids", k.Name, len(x.Kids))
		}
	}
}

// P8.2: what is put stands in place of what was there, between the others in order; directories are made.
func TestPut(t *testing.T) {
	n := dir(kid("b", file("1")), kid("d", dir(kid("m", file("2")))), kid("f", link("3")))
	b, d, f := n.Kids[0], n.Kids[1], n.Kids[2]
	x := exec("x")
	for _, c := range []struct {
		way  string
		x, n api.Node
	}{
		{"", x, x},
		{"", dir(), dir()},
		{"", sample(), sample()},
		{"a", x, dir(kid("a", x), b, d, f)},
		{"c", x, dir(b, kid("c", x), d, f)},
		{"e", x, dir(b, d, kid("e", x), f)},
		{"g", x, dir(b, d, f, kid("g", x))},
		{"B", x, dir(kid("B", x), b, d, f)},
		{"b", x, dir(kid("b", x), d, f)},
		{"d", x, dir(b, kid("d", x), f)},
		{"f", x, dir(b, d, kid("f", x))},
		{"b", dir(), dir(kid("b", dir()), d, f)},
		{"b", sample(), dir(kid("b", sample()), d, f)},
		{"d", dir(), dir(b, kid("d", dir()), f)},
		{"d/m", x, dir(b, kid("d", dir(kid("m", x))), f)},
		{"d/l", x, dir(b, kid("d", dir(kid("l", x), d.Node.Kids[0])), f)},
		{"d/n", x, dir(b, kid("d", dir(d.Node.Kids[0], kid("n", x))), f)},
		{"d/n/o", x, dir(b, kid("d", dir(d.Node.Kids[0], kid("n", dir(kid("o", x))))), f)},
		{"a/b/c", x, dir(kid("a", dir(kid("b", dir(kid("c", x))))), b, d, f)},
		{"a/a/a/a/a/a/a", x, dir(kid("a", deep(6, x)), b, d, f)},
		{"a/a/a/a/a/a", dir(kid("b", x)), dir(kid("a", deep(5, dir(kid("b", x)))), b, d, f)},
	} {
		put, e := tree.Put(n, c.way, c.x)
		wantNode(t, "Put at "+c.way, put, e, c.n)
	}
	// Into what is no directory all of it is put alone.
	for _, n := range []api.Node{file(""), exec("a"), link("a")} {
		put, e := tree.Put(n, "", sample())
		wantNode(t, "Put in place of all", put, e, sample())
	}
}

// P8.2: what stands ahead, and is no directory, is in the way, even of what would be too long.
func TestPutKnown(t *testing.T) {
	n := sample()
	for _, way := range []string{"a/b", "a/a", "a/b/c/d", "b/a/x", "b/a/x/y", "b/d/x/y", "b/d/y/y", "c/a", "c/x", "a/" + longWay(7), "a/" + longWay(8), "a/" + longWay(100000), "b/d/x/" + longWay(50)} {
		for _, x := range []api.Node{file(""), dir(), flat(199), deep(7, dir())} {
			put, e := tree.Put(n, way, x)
			wantNone(t, "Put at "+way[:min(20, len(way))], put, e, api.ErrKnown)
		}
	}
	for _, n := range []api.Node{file(""), exec("a"), link("a")} {
		for _, way := range []string{"a", "a/b", longWay(8), longWay(100000)} {
			put, e := tree.Put(n, way, file(""))
			wantNone(t, "Put into what is no directory", put, e, api.ErrKnown)
		}
	}
}

// P8.2: what would have too many nodes, or be too deep, is none; just so many, so deep, is.
func TestPutLong(t *testing.T) {
	// Nodes: the directories that are made count.
	for _, c := range []struct {
		n, x api.Node
		way  string
		e    api.Errno
	}{
		{flat(198), file(""), "a", api.OK},
		{flat(199), file(""), "a", api.ErrLong},
		{flat(199), dir(), "z/y", api.ErrLong},
		{flat(199), file("x"), "n000000", api.OK},
		{flat(199), exec("x"), "n000198", api.OK},
		{flat(199), dir(kid("a", file(""))), "n000100", api.ErrLong},
		{flat(198), dir(kid("a", file(""))), "n000100", api.OK},
		{flat(197), file(""), "a/b", api.OK},
		{flat(198), file(""), "a/b", api.ErrLong},
		{flat(192), file(""), longWay(7), api.OK},
		{flat(193), file(""), longWay(7), api.ErrLong},
		{dir(), flat(198), "a", api.OK},
		{dir(), flat(199), "a", api.ErrLong},
		{dir(kid("a", flat(100))), flat(198), "a", api.OK},
		{dir(kid("a", flat(100))), flat(199), "a", api.ErrLong},
		{dir(kid("a", flat(100))), flat(97), "b", api.OK},
		{dir(kid("a", flat(100))), flat(98), "b", api.ErrLong},
		{flat(199), flat(199), "", api.OK},
		{flat(199), flat(199), "a", api.ErrLong},
		// Depth: that of the way, and of what is put.
		{dir(), file(""), longWay(7), api.OK},
		{dir(), file(""), longWay(8), api.ErrLong},
		{dir(), dir(), longWay(8), api.ErrLong},
		{dir(), file(""), longWay(9), api.ErrLong},
		{dir(), file(""), longWay(100000), api.ErrLong},
		{dir(), dir(kid("a", file(""))), longWay(6), api.OK},
		{dir(), dir(kid("a", file(""))), longWay(7), api.ErrLong},
		{dir(), deep(6, file("")), "a", api.OK},
		{dir(), deep(7, file("")), "a", api.ErrLong},
		{dir(), deep(7, file("")), "", api.OK},
		{deep(7, dir()), file("x"), longWay(7), api.OK},
		{deep(7, dir()), file("x"), longWay(8), api.ErrLong},
		{deep(7, dir()), file("x"), longWay(7) + "/b", api.ErrLong},
		{deep(7, dir()), file("x"), longWay(6) + "/b", api.OK},
		{deep(7, dir()), file("x"), longWay(6) + "/b/c", api.ErrLong},
		{deep(7, dir()), deep(6, dir()), "a", api.OK},
		{deep(7, dir()), deep(6, dir()), "b", api.OK},
		{deep(7, dir()), deep(7, dir()), "b", api.ErrLong},
	} {
		nodes, deep, _ := tree.Count(c.n)
		what := fmt.Sprintf("%d nodes, %d deep, Put at %.20s", nodes, deep, c.way)
		wanted, e := plainOf(c.n).put(c.way, c.x)
		want(t, what+", plainly", e, c.e)
		put, e := tree.Put(c.n, c.way, c.x)
		wantPlain(t, what, put, e, wanted, c.e)
	}
}

// P8.2, R1: a way may be of very many names: nothing is made for all of them, and each call ends.
func TestVeryLongWay(t *testing.T) {
	way := longWay(3000000)
	put, e := tree.Put(dir(), way, file(""))
	wantNone(t, "Put", put, e, api.ErrLong)
	put, e = tree.Put(deep(3, file("")), way, file(""))
	wantNone(t, "Put behind a file", put, e, api.ErrKnown)
	x, e := tree.Find(deep(7, dir()), way)
	wantNone(t, "Find", x, e, api.ErrNone)
	x, e = tree.Take(deep(7, dir()), way+"/")
	wantNone(t, "Take", x, e, api.ErrShape)
}

// P8.2: what is taken is there no more, all that is below it neither; what it was in stays, even empty.
func TestTake(t *testing.T) {
	n := sample()
	a, b, c := n.Kids[0], n.Kids[1], n.Kids[2]
	l := b.Node.Kids
	for _, x := range []struct {
		way string
		n   api.Node
	}{
		{"a", dir(b, c)},
		{"b", dir(a, c)},
		{"c", dir(a, b)},
		{"b/a", dir(a, kid("b", dir(l[1], l[2])), c)},
		{"b/c", dir(a, kid("b", dir(l[0], l[2])), c)},
		{"b/d", dir(a, kid("b", dir(l[0], l[1])), c)},
		{"b/d/x", dir(a, kid("b", dir(l[0], l[1], kid("d", dir(kid("y", file("")))))), c)},
		{"b/d/y", dir(a, kid("b", dir(l[0], l[1], kid("d", dir(kid("x", link("a")))))), c)},
	} {
		took, e := tree.Take(n, x.way)
		wantNode(t, "Take of "+x.way, took, e, x.n)
	}
	took, e := tree.Take(dir(kid("a", sample())), "a")
	wantNode(t, "Take of the only one", took, e, dir())
	for many := 1; many <= 7; many++ {
		took, e := tree.Take(deep(7, file("")), longWay(many))
		wantNode(t, "Take of a deep one", took, e, deep(many-1, dir()))
	}
}

// P8.2: where there is no node nothing is taken, and never the tree itself.
func TestTakeNone(t *testing.T) {
	for _, n := range []api.Node{sample(), dir(), file("a"), exec(""), link("a"), flat(199), deep(7, dir())} {
		for _, way := range []string{"", "0", "z", "d", "b/0", "b/z", "b/d/z", "b/c/a", "a/a/a/a/a/a/a/a", "a/b", "c/a", "b/a/x", "d/a", longWay(100000)} {
			took, e := tree.Take(n, way)
			wantNone(t, "Take of "+way[:min(20, len(way))], took, e, api.ErrNone)
		}
	}
}

// P8.3: each directory ahead of its kids, these in order; not the order of the ways' own letters.
func TestWays(t *testing.T) {
	for _, c := range []struct {
		n api.Node
		l []string
	}{
		{file("a"), []string{""}},
		{exec(""), []string{""}},
		{link("a/b"), []string{""}},
		{dir(), []string{""}},
		{dir(kid("a", file("")), kid("b", dir())), []string{"", "a", "b"}},
		{sample(), []string{"", "a", "b", "b/a", "b/c", "b/d", "b/d/x", "b/d/y", "c"}},
		{dir(kid("a", dir(kid("z", dir()))), kid("a+", dir(kid("0", file("")))), kid("a-", file(""))), []string{"", "a", "a/z", "a+", "a+/0", "a-"}},
		{deep(7, dir()), []string{"", longWay(1), longWay(2), longWay(3), longWay(4), longWay(5), longWay(6), longWay(7)}},
		{dir(kid("b", deep(6, dir())), kid("c", file(""))), []string{"", "b", "b/a", "b/a/a", "b/a/a/a", "b/a/a/a/a", "b/a/a/a/a/a", "b/a/a/a/a/a/a", "c"}},
	} {
		if l := tree.Ways(c.n); !slices.Equal(l, c.l) {
			t.Errorf("%v: %q", c.n, l)
		}
	}
	if l := tree.Ways(flat(199)); len(l) != 200 || l[0] != "" || l[1] != "n000000" || l[199] != "n000198" {
		t.Errorf("%d ways", len(l))
	}
}

// wantFollows asks what follows of a right tree's ways.
func wantFollows(t *testing.T, n api.Node) {
	t.Helper()
	p := plainOf(n)
	ways := tree.Ways(n)
	nodes, deep, bytes := tree.Count(n)
	if len(ways) != nodes || nodes != len(p) {
		t.Errorf("%d ways, %d nodes, not %d", len(ways), nodes, len(p))
	}
	most, all := 0, 0
	for _, way := range ways {
		names, e := tree.Way(way)
		want(t, "Way of "+way, e, api.OK)
		if strings.Join(names, "/") != way {
			t.Errorf("%q: of the names %q", way, names)
		}
		most = max(most, 1+len(names))
		x, e := tree.Find(n, way)
		q, _ := p.find(way)
		wantPlain(t, "Find of "+way, x, e, q, api.OK)
		all += len(x.Bytes)
	}
	if most != deep || all != bytes {
		t.Errorf("%d deep, %d bytes, not %d, %d", deep, bytes, most, all)
	}
}

// P8.3, P8.4: there are as many ways as nodes, and each is found.
func TestWaysByChance(t *testing.T) {
	for what, c := range rightTrees() {
		if wantFollows(t, c.n); t.Failed() {
			t.Fatal(what)
		}
	}
	r := rand.New(rand.NewSource(3))
	for range 1000 {
		n := someNode(r, 8)
		if wantFollows(t, n); t.Failed() {
			t.Fatalf("%v", n)
		}
	}
}

// wantStays asks that what is at ways that do not begin so is as it was.
func wantStays(t *testing.T, n, now api.Node, way string) {
	t.Helper()
	for _, other := range tree.Ways(n) {
		if has(key(other), key(way)) || has(key(way), key(other)) {
			continue
		}
		x, e := tree.Find(now, other)
		wantNode(t, "Find of "+other, x, e, findAt(t, n, other))
	}
}

// P8.4: what is put is found, what is taken is not, and all else stays.
func TestFollows(t *testing.T) {
	r := rand.New(rand.NewSource(4))
	for range 1500 {
		n := someNode(r, 6)
		way, x := someWay(r, 4), someNode(r, 3)
		if put, e := tree.Put(n, way, x); e == api.OK {
			wantNode(t, "Find of what is put", findAt(t, put, way), api.OK, x)
			wantStays(t, n, put, way)
		}
		ways := tree.Ways(n)
		way = ways[r.Intn(len(ways))]
		if took, e := tree.Take(n, way); e == api.OK {
			y, e := tree.Find(took, way)
			wantNone(t, "Find of what is taken", y, e, api.ErrNone)
			wantStays(t, n, took, way)
			back, e := tree.Put(took, way, findAt(t, n, way))
			wantNode(t, "Put of what is taken", back, e, n)
		} else if way != "" {
			t.Errorf("Take of %q: %d", way, e)
		}
		if t.Failed() {
			t.Fatalf("%v, %q, %v", n, way, x)
		}
	}
}

// P8.2, P8.4: rows of all calls by chance, held against the chapter's words.
func TestRowsByChance(t *testing.T) {
	told := map[api.Errno]int{}
	for seed := range int64(60) {
		r := rand.New(rand.NewSource(100 + seed))
		n := dir()
		for range 120 {
			p := plainOf(n)
			way := someWay(r, 5)
			if ways := tree.Ways(n); r.Intn(2) == 0 {
				way = strings.Trim(ways[r.Intn(len(ways))]+"/"+someWay(r, 2), "/")
			}
			q, w := p.find(way)
			x, e := tree.Find(n, way)
			wantPlain(t, "Find", x, e, q, w)
			if r.Intn(5) == 0 {
				q, w = p.take(way)
				x, e = tree.Take(n, way)
			} else {
				y := someNode(r, 4)
				if way == "" {
					y = dir()
				}
				q, w = p.put(way, y)
				x, e = tree.Put(n, way, y)
			}
			wantPlain(t, "Put, or Take", x, e, q, w)
			if told[e]++; e == api.OK {
				n = x
			}
			if t.Failed() {
				t.Fatalf("row %d: %q of %v", seed, way, n)
			}
		}
	}
	for _, e := range []api.Errno{api.OK, api.ErrNone, api.ErrKnown, api.ErrLong} {
		if told[e] < 20 {
			t.Errorf("the sample told %d only %d times", e, told[e])
		}
	}
}
