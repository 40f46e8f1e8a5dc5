package pack_test

import (
	"bytes"
	"math/rand"
	"strings"
	"testing"

	"spence/api"
	"spence/pack"
	"spence/tree"
)

// P9.2: the archive of the node at a way.
func TestAt(t *testing.T) {
	b := plainPack(sample())
	for way, n := range map[string]api.Node{
		"":      sample(),
		"a":     file("one"),
		"b":     sample().Kids[1].Node,
		"b/a":   exec("two"),
		"b/c":   dir(),
		"b/d":   dir(kid("x", link("a")), kid("y", file(""))),
		"b/d/x": link("a"),
		"b/d/y": file(""),
		"c":     link("b/a"),
	} {
		x, e := pack.At(b, way)
		wantBytes(t, way, x, e, plainPack(n))
	}
}

// P9.2: ways at which nothing is, and what is no way.
func TestAtErrors(t *testing.T) {
	b := plainPack(sample())
	for _, way := range []string{"d", "A", "b/b", "b/c/a", "b/d/z", "a/b", "b/a/a", "c/a", "b/d/x/a", "a/a/a/a/a/a/a/a/a/a", strings.TrimSuffix(strings.Repeat("a/", 10000), "/"), strings.Repeat("n", 24)} {
		x, e := pack.At(b, way)
		wantNoBytes(t, way, x, e, api.ErrNone)
	}
	for _, way := range []string{"/", "a/", "/a", "b//d", "b/d/", ".", "..", "b/..", "b/.d", "a b", "a\x00", "é", strings.Repeat("n", 25), "a/" + strings.Repeat("n", 25), strings.Repeat("/", 10000)} {
		x, e := pack.At(b, way)
		wantNoBytes(t, way, x, e, api.ErrShape)
	}
	for _, n := range []api.Node{file("a"), exec(""), link("a"), dir()} {
		x, e := pack.At(plainPack(n), "")
		wantBytes(t, "the empty way", x, e, plainPack(n))
		x, e = pack.At(plainPack(n), "a")
		wantNoBytes(t, "a", x, e, api.ErrNone)
		x, e = pack.At(plainPack(n), "a/")
		wantNoBytes(t, "a/", x, e, api.ErrShape)
	}
}

// P9.2, R2: what Open tells is told first, whatever the way is.
func TestAtOpensFirst(t *testing.T) {
	for _, way := range []string{"", "a", "z", "/", ".", "a//b"} {
		x, e := pack.At(make([]byte, 4097), way)
		wantNoBytes(t, "too long: "+way, x, e, api.ErrLong)
		x, e = pack.At(plainPack(long(4097)), way)
		wantNoBytes(t, "an archive too long: "+way, x, e, api.ErrLong)
		x, e = pack.At([]byte{5, 0}, way)
		wantNoBytes(t, "none: "+way, x, e, api.ErrShape)
		// The node at a is right, but the tree is not.
		x, e = pack.At(plainPack(dir(kid("a", file("")), kid("b", link("")))), way)
		wantNoBytes(t, "wrong elsewhere: "+way, x, e, api.ErrShape)
	}
}

// P9.2: at each way of trees by chance there is the archive of what is found there.
func TestAtByChance(t *testing.T) {
	r := rand.New(rand.NewSource(3))
	for range 300 {
		n := dir(kid("a", someNode(r, 5)), kid("b", someNode(r, 7)))
		b := plainPack(n)
		for _, way := range append(tree.Ways(n), someName(r), someName(r)+"/"+someName(r), "b/"+someName(r)+"/"+someName(r)) {
			found, w := tree.Find(n, way)
			x, e := pack.At(b, way)
			if w != api.OK {
				wantNoBytes(t, way, x, e, w)
			} else {
				wantBytes(t, way, x, e, plainPack(found))
			}
		}
	}
}

// R3: what is told is new memory, and the bytes are not changed.
func TestAtSharesNothing(t *testing.T) {
	for _, way := range []string{"", "a", "b/d", "c", "z", "/"} {
		b := plainPack(sample())
		x, _ := pack.At(b, way)
		was := bytes.Clone(x)
		clear(x[:cap(x)])
		if !bytes.Equal(b, plainPack(sample())) {
			t.Errorf("%q: what is written to what it told is seen", way)
		}
		x, _ = pack.At(b, way)
		clear(b)
		if !bytes.Equal(x, was) {
			t.Errorf("%q: told otherwise", way)
		}
	}
}
