package pack_test

import (
	"bytes"
	"maps"
	"math/rand"
	"slices"
	"strings"
	"testing"

	"spence/api"
	"spence/pack"
)

// P9.1: archives, byte by byte.
func TestPackBytes(t *testing.T) {
	most := strings.Repeat("n", 24)
	for _, c := range []struct {
		n    api.Node
		want string
	}{
		{file(""), "\x01\x00"},
		{file("ab"), "\x01\x02ab"},
		{exec(""), "\x02\x00"},
		{exec("ab"), "\x02\x02ab"},
		{link("a"), "\x03\x01a"},
		{dir(), "\x04\x00"},
		{dir(kid("x", file("ab"))), "\x04\x01\x01x\x01\x02ab"},
		{dir(kid("x", dir())), "\x04\x01\x01x\x04\x00"},
		{dir(kid("A", exec("z")), kid("a", file("")), kid("aa", link("/"))), "\x04\x03\x01A\x02\x01z\x01a\x01\x00\x02aa\x03\x01/"},
		{dir(kid("a", dir(kid("b", dir(kid("c", link("..")))))), kid("d", dir())), "\x04\x02\x01a\x04\x01\x01b\x04\x01\x01c\x03\x02..\x01d\x04\x00"},
		{dir(kid(most, file("\x00\xff"))), "\x04\x01\x18" + most + "\x01\x02\x00\xff"},
		{file(strings.Repeat("x", 127)), "\x01\x7f" + strings.Repeat("x", 127)},
		{file(strings.Repeat("x", 128)), "\x01\x80\x01" + strings.Repeat("x", 128)},
		{exec(strings.Repeat("x", 300)), "\x02\xac\x02" + strings.Repeat("x", 300)},
		{link(strings.Repeat("x", 200)), "\x03\xc8\x01" + strings.Repeat("x", 200)},
		{file(strings.Repeat("x", 2048)), "\x01\x80\x10" + strings.Repeat("x", 2048)},
	} {
		b, e := pack.Pack(c.n)
		wantBytes(t, c.want, b, e, []byte(c.want))
		if size := pack.Size(c.n); size != len(c.want) {
			t.Errorf("%.40q: size %d, not %d", c.want, size, len(c.want))
		}
		n, e := pack.Open([]byte(c.want))
		wantTree(t, c.want, n, e, c.n)
	}
}

// P9.1: all kinds of right trees, held against the chapter's words.
func TestPackRight(t *testing.T) {
	for what, n := range rightTrees() {
		b, e := pack.Pack(n)
		wantBytes(t, what, b, e, plainPack(n))
		if size := pack.Size(n); size != len(b) {
			t.Errorf("%s: size %d, not %d", what, size, len(b))
		}
	}
}

// P9.1, R1, R2: what is no right tree has no archive and no size; that it would be too long is told behind that.
func TestPackWrong(t *testing.T) {
	l := wrongTrees()
	maps.Copy(l, oddTrees())
	maps.Copy(l, endless())
	for what, n := range l {
		b, e := pack.Pack(n)
		wantNoBytes(t, what, b, e, api.ErrArg)
		if size := pack.Size(n); size != 0 {
			t.Errorf("%s: size %d", what, size)
		}
	}
}

// P9.1: 4096 bytes are packed, one more is too long; its size is told even so.
func TestPackLong(t *testing.T) {
	for _, many := range []int{4000, 4095, 4096} {
		n := long(many)
		b, e := pack.Pack(n)
		wantBytes(t, "long", b, e, plainPack(n))
		if len(b) != many || pack.Size(n) != many {
			t.Errorf("%d bytes, size %d, not %d", len(b), pack.Size(n), many)
		}
	}
	most := strings.Repeat("x", 2048)
	for what, n := range map[string]api.Node{
		"one byte more":    long(4097),
		"some more":        long(6000),
		"two of the most":  dir(kid("a", file(most)), kid("b", file(most))),
		"below others":     deep(6, long(4097-6*4)),
		"many nodes":       flat(199, strings.Repeat("x", 20)),
		"the longest name": dir(kid("a", file(strings.Repeat("x", 2014))), kid(strings.Repeat("n", 24), exec(most))),
		"the most of all":  flat(199, most),
	} {
		b, e := pack.Pack(n)
		wantNoBytes(t, what, b, e, api.ErrLong)
		if size := pack.Size(n); size != len(plainPack(n)) || size <= 4096 {
			t.Errorf("%s: size %d, not %d", what, size, len(plainPack(n)))
		}
	}
}

// P9.1: trees by chance, those that are too long among them.
func TestPackByChance(t *testing.T) {
	r := rand.New(rand.NewSource(1))
	tooLong := 0
	for range 3000 {
		n := dir(kid("a", someNode(r, 7)), kid("b", someNode(r, 7)))
		if r.Intn(3) == 0 {
			n.Kids = append(n.Kids, kid("c", exec(strings.Repeat("c", r.Intn(2049)))), kid("d", file(strings.Repeat("d", r.Intn(2049)))), kid("e", file(strings.Repeat("e", r.Intn(2049)))))
		}
		wanted := plainPack(n)
		b, e := pack.Pack(n)
		if len(wanted) > 4096 {
			tooLong++
			wantNoBytes(t, "by chance", b, e, api.ErrLong)
		} else {
			wantBytes(t, "by chance", b, e, wanted)
		}
		if pack.Size(n) != len(wanted) {
			t.Errorf("%d, not %d", pack.Size(n), len(wanted))
		}
		if t.Failed() {
			t.FailNow()
		}
	}
	if tooLong < 50 || tooLong > 1500 {
		t.Errorf("%d of 3000 are too long", tooLong)
	}
}

// R3: no argument is changed or kept, nor what stands behind its lists' ends; what is told is new.
func TestPackSharesNothing(t *testing.T) {
	behind := append([]byte("bytes"), "behind"...)
	l := []api.Kid{kid("a", api.Node{Kind: api.KindFile, Bytes: behind[:5]}), kid("b", exec("x")), kid("z", link("behind"))}
	n := dir(l[:2]...)
	first, e := pack.Pack(n)
	want(t, "Pack", e, api.OK)
	was := bytes.Clone(first)
	clear(first[:cap(first)])
	if string(behind) != "bytesbehind" || l[2].Name != "z" || string(l[1].Node.Bytes) != "x" {
		t.Error("an argument is changed")
	}
	again, e := pack.Pack(n)
	wantBytes(t, "Pack again", again, e, was)
	pack.Size(n)
	clear(behind)
	l[1] = kid("y", dir())
	if !bytes.Equal(again, was) {
		t.Error("what is told changes with the tree")
	}
}

// R6: no bytes and nil, no kids and nil are one.
func TestPackWithoutElements(t *testing.T) {
	for _, kind := range []api.Kind{api.KindFile, api.KindExec, api.KindDir} {
		for _, n := range []api.Node{{Kind: kind}, {Kind: kind, Bytes: []byte{}, Kids: []api.Kid{}}, {Kind: kind, Bytes: []byte("abc")[:0], Kids: []api.Kid{kid("a", api.Node{})}[:0]}} {
			b, e := pack.Pack(n)
			wantBytes(t, "no elements", b, e, []byte{byte(kind), 0})
			b, e = pack.Pack(dir(kid("a", n)))
			wantBytes(t, "a kid without elements", b, e, slices.Concat([]byte{4, 1, 1, 'a'}, []byte{byte(kind), 0}))
		}
	}
}
