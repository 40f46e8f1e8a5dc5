package pack_test

import (
	"fmt"
	"math/rand"
	"testing"

	"spence/api"
	"spence/pack"
	"spence/tree"
)

// P9.3: what is packed is opened, and packed again to the same bytes.
func TestPackedIsOpened(t *testing.T) {
	r := rand.New(rand.NewSource(4))
	l := rightTrees()
	for i := range 1000 {
		l[fmt.Sprintf("by chance %d", i)] = someNode(r, 5)
	}
	for what, n := range l {
		b, e := pack.Pack(n)
		want(t, what, e, api.OK)
		x, e := pack.Open(b)
		wantTree(t, what+", opened", x, e, n)
		again, e := pack.Pack(x)
		wantBytes(t, what+", packed again", again, e, b)
		at, e := pack.At(b, "")
		wantBytes(t, what+", at the empty way", at, e, b)
	}
}

// P9.3: trees have one archive if they are one, else two.
func TestOneArchiveATree(t *testing.T) {
	r := rand.New(rand.NewSource(5))
	known := map[string]api.Node{}
	met := 0
	for range 5000 {
		n := someNode(r, 3)
		b, e := pack.Pack(n)
		want(t, "by chance", e, api.OK)
		if x, ok := known[string(b)]; ok {
			met++
			if !tree.Equal(x, n) {
				t.Fatalf("%v and %v: one archive", x, n)
			}
		}
		known[string(b)] = n
	}
	if met < 100 || len(known) < 500 {
		t.Errorf("%d met, %d unlike", met, len(known))
	}
}

// P9.3: with a byte less, or more bytes less, an archive is none.
func TestLessIsNone(t *testing.T) {
	for what, n := range rightTrees() {
		b := plainPack(n)
		for many := range len(b) {
			x, e := pack.Open(b[:many])
			wantNoTree(t, fmt.Sprintf("%s, %d of %d bytes", what, many, len(b)), x, e, api.ErrShape)
		}
		if t.Failed() {
			t.FailNow()
		}
	}
}

// P9.3: with a byte more, whichever it is, an archive is none; the longest one is too long then.
func TestMoreIsNone(t *testing.T) {
	for what, n := range rightTrees() {
		b := plainPack(n)
		w := api.ErrShape
		if len(b) == 4096 {
			w = api.ErrLong
		}
		for more := range 256 {
			x, e := pack.Open(append(b[:len(b):len(b)], byte(more)))
			wantNoTree(t, fmt.Sprintf("%s, and %d", what, more), x, e, w)
		}
		if t.Failed() {
			t.FailNow()
		}
	}
}
