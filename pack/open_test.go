package pack_test

import (
	"bytes"
	"fmt"
	"math/rand"
	"slices"
	"strings"
	"testing"

	"spence/api"
	"spence/pack"
	"spence/tree"
)

// wantNoArchive asks that bytes are no archive, whatever is asked of them.
func wantNoArchive(t *testing.T, what string, b []byte, w api.Errno) {
	t.Helper()
	n, e := pack.Open(b)
	wantNoTree(t, what, n, e, w)
	for _, way := range []string{"", "a", "a/b", "/", "."} {
		x, e := pack.At(b, way)
		wantNoBytes(t, what+": At "+way, x, e, w)
	}
}

// P9.2: archives of all kinds of right trees.
func TestOpenRight(t *testing.T) {
	for what, n := range rightTrees() {
		x, e := pack.Open(plainPack(n))
		wantTree(t, what, x, e, n)
	}
}

// P9.2: bytes that are no archives.
func TestOpenWrong(t *testing.T) {
	const most = "\x80\x80\x80\x80\x80\x20"
	for what, s := range map[string]string{
		"nothing":                        "",
		"a kind alone":                   "\x01",
		"a directory alone":              "\x04",
		"kind 0":                         "\x00",
		"kind 0, no bytes":               "\x00\x00",
		"kind 5":                         "\x05\x00",
		"kind 128":                       "\x80\x01\x00",
		"kind 1, written longer":         "\x81\x00\x00",
		"kind 4, written longer":         "\x84\x00\x00",
		"kind 1, and a bit above":        "\x81\x80\x80\x80\x80\x80\x80\x80\x80\x01\x00",
		"the greatest kind":              most + "\x00",
		"a kind that goes on":            "\x81",
		"no length, written longer":      "\x01\x80\x00",
		"a length, written longer":       "\x01\x82\x00ab",
		"a length without an end":        "\x01\x80",
		"a byte too few":                 "\x01\x03ab",
		"a byte too many":                "\x01\x01ab",
		"the greatest length":            "\x01" + most,
		"a length above all":             "\x01\x81\x80\x80\x80\x80\x20",
		"a length of seven bytes":        "\x01\x80\x80\x80\x80\x80\x80\x01",
		"a length that would turn round": "\x01\xff\xff\xff\xff\xff\xff\xff\xff\xff\x01a",
		"2049 bytes that are not there":  "\x01\x81\x10",
		"a link without bytes":           "\x03\x00",
		"no kids, written longer":        "\x04\x80\x00",
		"a kid, written longer":          "\x04\x81\x00\x01x\x01\x00",
		"a kid that is not there":        "\x04\x01",
		"a name alone":                   "\x04\x01\x01x",
		"a name, written longer":         "\x04\x01\x81\x00x\x01\x00",
		"a kid too few":                  "\x04\x02\x01x\x01\x00",
		"a kid too many":                 "\x04\x01\x01x\x01\x00\x01y\x01\x00",
		"a kid behind none":              "\x04\x00\x01x\x01\x00",
		"the greatest number of kids":    "\x04" + most + "\x01x\x01\x00",
		"kids above all":                 "\x04\x81\x80\x80\x80\x80\x20\x01x\x01\x00",
		"a kid of kind 0":                "\x04\x01\x01x\x00\x00",
		"a kid of kind 5":                "\x04\x01\x01x\x05\x00",
		"two archives":                   "\x01\x00\x01\x00",
		"two directories":                "\x04\x00\x04\x00",
		"a file behind a link":           "\x03\x01a\x01\x00",
		"noughts":                        strings.Repeat("\x00", 4096),
		"kinds":                          strings.Repeat("\x04", 4096),
		"bits":                           strings.Repeat("\xff", 4096),
		"directories without names":      strings.Repeat("\x04\x01\x00", 1365),
		"directories of many":            strings.Repeat("\x04\xc7\x01\x01a", 819),
		"a text":                         "spence",
	} {
		wantNoArchive(t, what, []byte(s), api.ErrShape)
	}
	wantNoArchive(t, "nil", nil, api.ErrShape)
}

// P9.2: archives as those of trees that are not right.
func TestOpenWrongTrees(t *testing.T) {
	for what, n := range wrongTrees() {
		b := plainPack(n)
		if len(b) > 4096 {
			t.Fatalf("%s: %d bytes", what, len(b))
		}
		wantNoArchive(t, what, b, api.ErrShape)
	}
}

// P9.2, R2: more than 4096 bytes are too long, whatever they are.
func TestOpenLong(t *testing.T) {
	for what, b := range map[string][]byte{
		"an archive, a byte too long": plainPack(long(4097)),
		"an archive, far too long":    plainPack(flat(199, strings.Repeat("x", 2048))),
		"of no right tree":            plainPack(link(strings.Repeat("x", 5000))),
		"a byte behind the longest":   append(plainPack(long(4096)), 0),
		"4097 noughts":                make([]byte, 4097),
		"many noughts":                make([]byte, 1<<22),
		"an archive, noughts behind":  append(plainPack(sample()), make([]byte, 5000)...),
	} {
		wantNoArchive(t, what, b, api.ErrLong)
	}
	wantNoArchive(t, "4096 noughts", make([]byte, 4096), api.ErrShape)
	n, e := pack.Open(plainPack(long(4096)))
	wantTree(t, "4096 bytes", n, e, long(4096))
}

// wantPlainOpen asks that Open of bytes is plainly right, and that what is opened is packed to them.
func wantPlainOpen(t *testing.T, b []byte) bool {
	t.Helper()
	n, ok := plainOpen(b)
	x, e := pack.Open(b)
	if !ok {
		wantNoTree(t, fmt.Sprintf("%.100q", b), x, e, api.ErrShape)
		return false
	}
	wantTree(t, fmt.Sprintf("%.100q", b), x, e, n)
	again, e := pack.Pack(x)
	wantBytes(t, "packed again", again, e, b)
	return true
}

// P9.2, P9.3: all rows of few bytes, held against the chapter's words.
func TestOpenAllShort(t *testing.T) {
	const letters = "\x00\x01\x02\x03\x04ab\x80\x81"
	opened := 0
	var all func(b []byte)
	all = func(b []byte) {
		if wantPlainOpen(t, b) {
			opened++
		}
		if t.Failed() {
			t.FailNow()
		}
		if len(b) == 5 {
			return
		}
		for i := range len(letters) {
			all(append(b[:len(b):len(b)], letters[i]))
		}
	}
	all(nil)
	// Of 2 bytes: files and executables without bytes, an empty directory; of 3 to 5: 1, 2 and 3 bytes of the nine, of three kinds.
	if wanted := 3 + 3*(9+81+729); opened != wanted {
		t.Errorf("%d are archives, not %d", opened, wanted)
	}
}

// P9.2, P9.3: archives of which something is made otherwise, by chance, held against the chapter's words.
func TestOpenByChance(t *testing.T) {
	r := rand.New(rand.NewSource(2))
	opened := 0
	const many = 20000
	for range many {
		b := plainPack(dir(kid("a", someNode(r, 5)), kid("b", someNode(r, 5))))
		for range 1 + r.Intn(2) {
			at := r.Intn(len(b))
			switch r.Intn(5) {
			case 0:
				b[at] = byte(r.Intn(256))
			case 1:
				b[at] = byte(r.Intn(6))
			case 2:
				b[at] ^= 1 << r.Intn(8)
			case 3:
				b = slices.Insert(b, at, byte(r.Intn(5)))
			case 4:
				b = append(slices.Delete(b, at, at+1), 0)
			}
		}
		if wantPlainOpen(t, b) {
			opened++
		}
		if t.Failed() {
			t.FailNow()
		}
	}
	if opened < many/20 || opened > many*19/20 {
		t.Errorf("%d of %d are archives", opened, many)
	}
}

// scribble writes over all memory that a tree has, behind its lists' ends, too.
func scribble(n *api.Node) {
	b := n.Bytes[:cap(n.Bytes)]
	for i := range b {
		b[i] = '!'
	}
	l := n.Kids[:cap(n.Kids)]
	for i := range l {
		scribble(&l[i].Node)
		l[i] = kid("!", api.Node{Kind: 99})
	}
	n.Kind = 98
}

// R3: what is opened shares nothing with the bytes, nor has it any memory twice; they are not changed.
func TestOpenSharesNothing(t *testing.T) {
	n := dir(kid("a", sample()), kid("b", sample()), kid("c", file("same")), kid("d", file("same")))
	behind := append(plainPack(n), "behind"...)
	b := behind[: len(behind)-6 : len(behind)]
	was := bytes.Clone(behind)
	x, e := pack.Open(b)
	wantTree(t, "Open", x, e, n)
	for i := range x.Kids {
		scribble(&x.Kids[i].Node)
		for k := i + 1; k < len(x.Kids); k++ {
			if !tree.Equal(x.Kids[k].Node, n.Kids[k].Node) {
				t.Errorf("kids %d and %d share memory", i, k)
			}
		}
	}
	scribble(&x)
	if !bytes.Equal(behind, was) {
		t.Error("what is written to what was opened is seen")
	}
	x, e = pack.Open(b)
	clear(behind)
	wantTree(t, "Open, the bytes written over", x, e, n)
}
