package tree_test

import (
	"fmt"
	"math/rand"
	"slices"
	"strings"
	"testing"

	"spence/api"
	"spence/tree"
)

// counted is a tree with how many nodes it has, how deep it is, how many bytes.
type counted struct {
	n                  api.Node
	nodes, deep, bytes int
}

// rightTrees are right.
func rightTrees() map[string]counted {
	full := func(many, deep int) api.Node {
		n := dir(kid("a", file(strings.Repeat("x", 10))))
		for range deep - 2 {
			n = dir(kid("a", n))
		}
		nodes, _, _ := plainCount(n)
		for i := range many - nodes {
			n.Kids = append(n.Kids, kid(fmt.Sprintf("b%03d", i), exec("yz")))
		}
		return n
	}
	return map[string]counted{
		"an empty file":              {file(""), 1, 1, 0},
		"a file of nil":              {api.Node{Kind: api.KindFile}, 1, 1, 0},
		"a file, no kids, not nil":   {api.Node{Kind: api.KindFile, Kids: []api.Kid{}}, 1, 1, 0},
		"a file":                     {file("ab\x00\xff"), 1, 1, 4},
		"the longest file":           {file(strings.Repeat("x", 2048)), 1, 1, 2048},
		"an empty executable":        {exec(""), 1, 1, 0},
		"the longest executable":     {exec(strings.Repeat("x", 2048)), 1, 1, 2048},
		"the shortest link":          {link("a"), 1, 1, 1},
		"a link of any bytes":        {link("../\x00\xff//"), 1, 1, 7},
		"the longest link":           {link(strings.Repeat("x", 200)), 1, 1, 200},
		"an empty directory":         {dir(), 1, 1, 0},
		"an empty directory of nil":  {api.Node{Kind: api.KindDir, Kids: nil, Bytes: nil}, 1, 1, 0},
		"an empty one, not nil":      {api.Node{Kind: api.KindDir, Kids: []api.Kid{}, Bytes: []byte{}}, 1, 1, 0},
		"a directory of one":         {dir(kid("a", file("ab"))), 2, 2, 2},
		"an empty directory in one":  {dir(kid("a", dir())), 2, 2, 0},
		"names in order":             {dir(kid("+", dir()), kid("-", dir()), kid("0", dir()), kid("10", dir()), kid("9", dir()), kid("A", dir()), kid("Z", dir()), kid("_", dir()), kid("a", dir()), kid("a+", dir()), kid("a-", dir()), kid("a.", dir()), kid("a..", dir()), kid("aa", dir()), kid("z", dir())), 16, 2, 0},
		"the longest name":           {dir(kid(strings.Repeat("n", 24), file("a"))), 2, 2, 1},
		"one name at each level":     {dir(kid("a", dir(kid("a", dir(kid("a", file("xy"))))))), 4, 4, 2},
		"all kinds":                  {sample(), 9, 4, 10},
		"the deepest file":           {deep(7, file("abc")), 8, 8, 3},
		"the deepest link":           {deep(7, link("abc")), 8, 8, 3},
		"the deepest directory":      {deep(7, dir()), 8, 8, 0},
		"deepest at the end":         {dir(kid("a", file("")), kid("b", deep(6, file("x")))), 9, 8, 1},
		"deepest amid":               {dir(kid("a", file("")), kid("b", deep(5, file("x"))), kid("c", deep(2, dir()))), 11, 7, 1},
		"the most nodes":             {flat(199), 200, 2, 0},
		"the most nodes, deep":       {full(200, 8), 200, 8, 10 + 2*192},
		"one less than that":         {full(199, 8), 199, 8, 10 + 2*191},
		"the most below one another": {deep(6, flat(193)), 200, 8, 0},
		"one kid's nodes twice":      {dir(kid("a", sample()), kid("b", sample())), 19, 5, 20},
	}
}

// plainCount counts a finite tree, after the chapter's words.
func plainCount(n api.Node) (nodes, deep, bytes int) {
	nodes, bytes = 1, len(n.Bytes)
	for _, k := range n.Kids {
		more, below, b := plainCount(k.Node)
		nodes += more
		deep = max(deep, below)
		bytes += b
	}
	return nodes, deep + 1, bytes
}

// plainOne says whether a finite tree's nodes are such, how many and how deep left out.
func plainOne(n api.Node) bool {
	names := []string{}
	for _, k := range n.Kids {
		names = append(names, k.Name)
		if !plainOne(k.Node) {
			return false
		}
	}
	switch n.Kind {
	case 1, 2:
		return len(n.Bytes) <= 2048 && len(names) == 0
	case 3:
		return len(n.Bytes) >= 1 && len(n.Bytes) <= 200 && len(names) == 0
	case 4:
		return len(n.Bytes) == 0 && slices.IsSorted(names) && len(slices.Compact(names)) == len(n.Kids) && !slices.ContainsFunc(names, func(s string) bool { return slices.Contains(wrongNames(), s) })
	}
	return false
}

// plainRight says whether a finite tree is right.
func plainRight(n api.Node) bool {
	nodes, deep, _ := plainCount(n)
	return nodes <= 200 && deep <= 8 && plainOne(n)
}

// P8.1: trees that are right, and what they count.
func TestRight(t *testing.T) {
	for what, c := range rightTrees() {
		if !tree.Right(c.n) {
			t.Errorf("%s: not right", what)
		}
		if nodes, deep, bytes := tree.Count(c.n); nodes != c.nodes || deep != c.deep || bytes != c.bytes {
			t.Errorf("%s: %d nodes, %d deep, %d bytes, not %d, %d, %d", what, nodes, deep, bytes, c.nodes, c.deep, c.bytes)
		}
	}
}

// wantWrong asks that a tree is not right, and that no call takes it.
func wantWrong(t *testing.T, what string, n api.Node) {
	t.Helper()
	if tree.Right(n) {
		t.Errorf("%s: right", what)
	}
	if nodes, deep, bytes := tree.Count(n); nodes != 0 || deep != 0 || bytes != 0 {
		t.Errorf("%s: %d nodes, %d deep, %d bytes", what, nodes, deep, bytes)
	}
	if !isZero(tree.Copy(n)) {
		t.Errorf("%s: is copied", what)
	}
	if tree.Equal(n, n) || tree.Equal(n, sample()) || tree.Equal(sample(), n) {
		t.Errorf("%s: equal", what)
	}
	if l := tree.Ways(n); len(l) != 0 {
		t.Errorf("%s: %d ways", what, len(l))
	}
	for _, way := range []string{"", "a", "a/b", "z", "/", "."} {
		x, e := tree.Find(n, way)
		wantNone(t, what+": Find", x, e, api.ErrArg)
		x, e = tree.Take(n, way)
		wantNone(t, what+": Take", x, e, api.ErrArg)
		x, e = tree.Put(n, way, sample())
		wantNone(t, what+": Put into it", x, e, api.ErrArg)
		x, e = tree.Put(sample(), way, n)
		wantNone(t, what+": Put of it", x, e, api.ErrArg)
		x, e = tree.Put(n, way, n)
		wantNone(t, what+": Put of it into it", x, e, api.ErrArg)
	}
}

// P8.1, P8.2, P8.3, R1, R2: trees that are not right, endless ones among them, and all calls of them.
func TestWrong(t *testing.T) {
	for what, n := range wrongTrees() {
		wantWrong(t, what, n)
	}
}

// P8.1: what is wrong alone is wrong as a kid, a first, a last, a deep one.
func TestWrongBelow(t *testing.T) {
	for what, n := range wrongNodes() {
		wantWrong(t, what+", as a kid", dir(kid("a", n)))
		wantWrong(t, what+", as a first kid", dir(kid("a", n), kid("b", sample())))
		wantWrong(t, what+", as a last kid", dir(kid("a", sample()), kid("b", n)))
		wantWrong(t, what+", at the deepest", deep(7, n))
	}
	for what, n := range endless() {
		wantWrong(t, what+", as a last kid", dir(kid("a", sample()), kid("b", n)))
	}
}

// P8.1: one node more, one level more, wherever that is.
func TestWrongBySize(t *testing.T) {
	for what, c := range rightTrees() {
		if c.deep == 8 {
			wantWrong(t, what+", a level deeper", dir(kid("a", c.n)))
			wantWrong(t, what+", a level deeper, later", dir(kid("a", file("")), kid("b", c.n), kid("c", dir())))
		}
		if c.nodes == 200 {
			n := c.n
			n.Kids = append(slices.Clone(n.Kids), kid("z", file("")))
			wantWrong(t, what+", a kid more", n)
			first := slices.Insert(slices.Clone(c.n.Kids), 0, kid("+", dir()))
			wantWrong(t, what+", a kid more, ahead", dir(first...))
		}
	}
	// Halves that are right are too much together.
	wantWrong(t, "two halves, and the one they are in", dir(kid("a", flat(99)), kid("b", flat(99))))
	n := dir(kid("a", flat(99)), kid("b", flat(98)))
	if nodes, deep, _ := tree.Count(n); !tree.Right(n) || nodes != 200 || deep != 3 {
		t.Errorf("two halves, one smaller: %d, %d", nodes, deep)
	}
}

// spoil makes something of a node otherwise, by chance: it may be right even so.
func spoil(r *rand.Rand, n *api.Node) {
	switch r.Intn(6) {
	case 0:
		n.Kind = api.Kind(r.Intn(7) - 1)
	case 1:
		n.Bytes = append(slices.Clone(n.Bytes), 'x')
	case 2:
		n.Bytes = nil
	case 3:
		n.Kids = append(slices.Clone(n.Kids), kid(someName(r), file("")))
	case 4:
		n.Kids = slices.Clone(n.Kids)
		r.Shuffle(len(n.Kids), func(i, k int) { n.Kids[i], n.Kids[k] = n.Kids[k], n.Kids[i] })
	case 5:
		n.Kids = slices.Clone(n.Kids)
		for i := range n.Kids {
			if r.Intn(2) == 0 {
				n.Kids[i].Name = wrongNames()[r.Intn(len(wrongNames()))]
			}
		}
	}
}

// P8.1: trees by chance, right ones and ones of which a node is made otherwise, held against the chapter's words.
func TestRightByChance(t *testing.T) {
	r := rand.New(rand.NewSource(1))
	right := 0
	for range 4000 {
		n := dir(kid("a", someNode(r, 8)), kid("b", someNode(r, 4)))
		if r.Intn(4) > 0 {
			all := nodesOf(&n)
			spoil(r, all[r.Intn(len(all))])
		}
		if !plainRight(n) {
			wantWrong(t, "by chance", n)
		} else {
			right++
			nodes, deep, bytes := plainCount(n)
			if a, b, c := tree.Count(n); !tree.Right(n) || a != nodes || b != deep || c != bytes {
				t.Errorf("%v: %t, %d, %d, %d", n, tree.Right(n), a, b, c)
			}
		}
		if t.Failed() {
			t.FailNow()
		}
	}
	if right < 1000 || right > 3000 {
		t.Errorf("%d of 4000 are right", right)
	}
}

// P8.1: names with a slash between each two, and the empty way.
func TestWay(t *testing.T) {
	most := strings.Repeat("n", api.MaxName)
	for _, c := range []struct {
		s string
		l []string
	}{
		{"", nil},
		{"a", []string{"a"}},
		{"a/b", []string{"a", "b"}},
		{"b/a", []string{"b", "a"}},
		{"a/a/a", []string{"a", "a", "a"}},
		{"-/+/_/a./0..", []string{"-", "+", "_", "a.", "0.."}},
		{most, []string{most}},
		{most + "/" + most, []string{most, most}},
		{longWay(8), slices.Repeat([]string{"a"}, 8)},
		{longWay(9), slices.Repeat([]string{"a"}, 9)},
		{longWay(100000), slices.Repeat([]string{"a"}, 100000)},
	} {
		if l, e := tree.Way(c.s); !slices.Equal(l, c.l) || e != api.OK {
			t.Errorf("%.40q: %d names, %d", c.s, len(l), e)
		}
	}
}

// P8.1, P8.2: what is no way, and all calls of it; what is no tree is told first, all else behind it.
func TestWrongWay(t *testing.T) {
	for _, way := range wrongWays() {
		if l, e := tree.Way(way); len(l) != 0 || e != api.ErrShape {
			t.Errorf("%.40q: %d names, %d", way, len(l), e)
		}
		for _, n := range []api.Node{sample(), dir(), file("a"), link("a"), flat(199)} {
			what := fmt.Sprintf("%.40q", way)
			x, e := tree.Find(n, way)
			wantNone(t, what+": Find", x, e, api.ErrShape)
			x, e = tree.Take(n, way)
			wantNone(t, what+": Take", x, e, api.ErrShape)
			x, e = tree.Put(n, way, sample())
			wantNone(t, what+": Put", x, e, api.ErrShape)
			x, e = tree.Find(api.Node{}, way)
			wantNone(t, what+": Find of none", x, e, api.ErrArg)
			x, e = tree.Take(api.Node{}, way)
			wantNone(t, what+": Take of none", x, e, api.ErrArg)
			x, e = tree.Put(api.Node{}, way, sample())
			wantNone(t, what+": Put to none", x, e, api.ErrArg)
			x, e = tree.Put(n, way, api.Node{})
			wantNone(t, what+": Put of none", x, e, api.ErrArg)
		}
	}
}

// P8.1: each byte that may stand in a name may stand in a way; a slash parts it; no other one may.
func TestWayEachByte(t *testing.T) {
	const may = "abcdefghijklmnopqrstuvwxyzABCDEFGHIJKLMNOPQRSTUVWXYZ0123456789._+-"
	for b := range 256 {
		s := "x" + string([]byte{byte(b)}) + "y/z"
		l, e := tree.Way(s)
		switch {
		case b == '/':
			if !slices.Equal(l, []string{"x", "y", "z"}) || e != api.OK {
				t.Errorf("%q: %q, %d", s, l, e)
			}
		case strings.IndexByte(may, byte(b)) >= 0:
			if !slices.Equal(l, []string{s[:3], "z"}) || e != api.OK {
				t.Errorf("%q: %q, %d", s, l, e)
			}
		default:
			if len(l) != 0 || e != api.ErrShape {
				t.Errorf("%q: %q, %d", s, l, e)
			}
		}
	}
}
