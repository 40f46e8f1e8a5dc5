package store_test

import (
	"bytes"
	"fmt"
	"slices"
	"testing"

	"spence/api"
)

// P16.2: an object's own bytes are written elsewhere, where it lies from then on; its path is told, and it checks again.
func TestMend(t *testing.T) {
	b := formatted(t, some, some)
	d := adds(1, "a", long(1, 150))
	p, own := ownOf(t, d)
	b.must(t, "a", d)
	b.must(t, "b", adds(1, "b", file("y")))
	for i, bit := range []int{0, 600, 1199} {
		was := slices.Clone(b.p.at(p).runs)
		b.spoil(t, p, bit)
		want(t, "Check of what is spoilt", b.x.Check(p), api.ErrHash)
		wantPaths(t, "told", b.must(t, fmt.Sprint("mend ", i), mends(1, p, own)), []api.Path{p})
		want(t, "Check of what is mended", b.x.Check(p), api.OK)
		if slices.Equal(b.p.at(p).runs, was) {
			t.Error("it lies where it lay")
		}
		b.again(t, "mended")
	}
	b.must(t, "mend of what is whole", mends(1, p, own))
	b.must(t, "held by another one", adopts(2, p))
	b.must(t, "mended by it", mends(2, p, own))
}

// P16.2: ErrNone, unless the user holds it; ErrHash, unless the bytes are its own.
func TestMendErrors(t *testing.T) {
	b := formatted(t, some, some)
	d := adds(1, "a", refers(dummy2()))
	p, own := ownOf(t, d)
	b.must(t, "a", d)
	for _, wrong := range [][]byte{nil, {}, d.Bytes, own[1:], own[:len(own)-1], append(bytes.Clone(own), 0), file("x"), make([]byte, 5000), make([]byte, len(own))} {
		b.refused(t, fmt.Sprint(len(wrong), " bytes"), api.ErrHash, mends(1, p, wrong))
		b.refused(t, "of another one", api.ErrNone, mends(2, p, wrong))
	}
	for i := range own {
		wrong := bytes.Clone(own)
		wrong[i] ^= 1
		b.refusedShort(t, "a bit", api.ErrHash, mends(1, p, wrong))
	}
	b.refused(t, "of another one", api.ErrNone, mends(2, p, own))
	for _, path := range []api.Path{{}, {Hash: p.Hash}, {Hash: p.Hash, Name: "b"}, {Hash: api.Hash{1}, Name: "a"}} {
		b.refused(t, "none", api.ErrNone, mends(1, path, own))
	}
	b.must(t, "let go", collects(1))
	b.refused(t, "gone", api.ErrNone, mends(1, p, own))
}

// P16.2: bytes that are mended are those that deeds behind it read.
func TestMendThenAdd(t *testing.T) {
	b := formatted(t, some, some)
	d, other := adds(1, "a", long(1, 150)), adds(2, "a", long(1, 150))
	p, own := ownOf(t, d)
	b.must(t, "a", d)
	b.spoil(t, p, 77)
	b.refused(t, "add of what is spoilt", api.ErrHash, d)
	b.refused(t, "ahead of its mend", api.ErrHash, other, mends(1, p, own))
	b.must(t, "behind its mend", mends(1, p, own), d, other)
	wantPaths(t, "of 2", b.x.Of(2), []api.Path{p})
}

// R3: bytes that are given are not kept: what is made of them later is nothing.
func TestKeepsNoBytes(t *testing.T) {
	b := formatted(t, some, some)
	d := adds(1, "a", file("hello"))
	d.Of = []api.Path{{Name: "a"}}
	p, own := ownOf(t, d)
	val := []byte{1, 2, 3}
	b.must(t, "add, note", d, notes(1, "k", val...))
	m := mends(1, p, own)
	n := notes(2, "k", val...)
	was := slices.Clone(val)
	b.must(t, "mend, note", m, n)
	if !slices.Equal(val, was) || !bytes.Equal(d.Bytes, file("hello")) || d.Of[0] != (api.Path{Name: "a"}) {
		t.Error("something is changed")
	}
	clear(d.Bytes)
	clear(m.Bytes)
	clear(n.Bytes)
	b.wantAlike(t, "behind a change of what came in")
	b.must(t, "something else", notes(1, "l", 1))
	b.again(t, "behind a change of what came in")
}
