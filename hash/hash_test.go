package hash_test

import (
	"bytes"
	"crypto/sha256"
	"encoding/hex"
	"strings"
	"testing"

	"spence/api"
	"spence/code"
	"spence/hash"
)

// row is so many bytes, of which no two that are near are alike.
func row(many int) []byte {
	b := make([]byte, many)
	for i := range b {
		b[i] = byte(i*7 + i/256)
	}
	return b
}

// P2.1: digests that are known.
func TestSumKnown(t *testing.T) {
	for _, c := range []struct{ text, want string }{
		{"", "e3b0c44298fc1c149afbf4c8996fb92427ae41e4649b934ca495991b7852b855"},
		{"a", "ca978112ca1bbdcafac231b39a23dc4da786eff8147c4e72b9807785afee48bb"},
		{"abc", "ba7816bf8f01cfea414140de5dae2223b00361a396177a9cb410ff61f20015ad"},
		{"abcdbcdecdefdefgefghfghighijhijkijkljklmklmnlmnomnopnopq", "248d6a61d20638b8e5c026930c3e6039a33ce45964ff2167f6ecedd419db06c1"},
		{strings.Repeat("a", 1000000), "cdc76e5c9914fb9281a1c7e284d73e67f1809a48a497200e046d39ccc7112cd0"},
	} {
		s := hash.Sum([]byte(c.text))
		if got := hex.EncodeToString(s[:]); got != c.want {
			t.Errorf("Sum of %d bytes: %s, not %s", len(c.text), got, c.want)
		}
	}
}

// P2.1: of nothing there is one digest, in how many empty parts it may come.
func TestSumOfNothing(t *testing.T) {
	want := api.Sum(sha256.Sum256(nil))
	for i, s := range []api.Sum{hash.Sum(), hash.Sum(nil), hash.Sum([]byte{}), hash.Sum(nil, []byte{}, nil)} {
		if s != want {
			t.Errorf("%d: %x", i, s)
		}
	}
}

// P2.1: of every length about a few blocks, at which the bytes behind it need a block more or not.
func TestSumOfLengths(t *testing.T) {
	b := row(4*64 + 10)
	for many := range len(b) + 1 {
		if got, want := hash.Sum(b[:many]), api.Sum(sha256.Sum256(b[:many])); got != want {
			t.Errorf("Sum of %d bytes: %x, not %x", many, got, want)
		}
	}
}

// P2.1: each bit of the bytes counts, and so do noughts at their end.
func TestSumOfOtherBytes(t *testing.T) {
	b := row(130)
	seen := map[api.Sum]bool{hash.Sum(b): true}
	for i := range 8 * len(b) {
		other := bytes.Clone(b)
		other[i/8] ^= 1 << (i % 8)
		seen[hash.Sum(other)] = true
	}
	if len(seen) != 8*len(b)+1 {
		t.Errorf("%d digests of %d rows", len(seen), 8*len(b)+1)
	}
	if hash.Sum([]byte{0}) == hash.Sum(nil) || hash.Sum(b) == hash.Sum(b, []byte{0}) {
		t.Error("a nought at the end does not count")
	}
}

// P2.1: byte i of a digest stands in byte i modulo 20, by exclusive or.
func TestFold(t *testing.T) {
	if h := hash.Fold(api.Sum{}); h != (api.Hash{}) {
		t.Errorf("of noughts: %x", h)
	}
	for i := range 32 {
		var s api.Sum
		var want api.Hash
		s[i], want[i%20] = byte(200+i), byte(200+i)
		if h := hash.Fold(s); h != want {
			t.Errorf("of byte %d: %x", i, h)
		}
	}
	var s api.Sum
	for i := range s {
		s[i] = byte(i)
	}
	// 20 is put upon 0, 31 upon 11; 12 to 19 stand alone.
	want := api.Hash{20, 20, 20, 20, 28, 28, 28, 28, 20, 20, 20, 20, 12, 13, 14, 15, 16, 17, 18, 19}
	if h := hash.Fold(s); h != want {
		t.Errorf("of 0 to 31: %v, not %v", h, want)
	}
	if h := hash.Fold(hash.Sum([]byte("abc"))); hex.EncodeToString(h[:]) != "2c6f6c233b11308bb34155735dae2223b00361a3" {
		t.Errorf("of abc: %x", h)
	}
}

// digestOf is what Of must tell where the texts' bytes are these.
func digestOf(texts []byte) api.Hash {
	return hash.Fold(sha256.Sum256(texts))
}

// P2.1: Of is folded out of the texts' bytes of the tag and of each part.
func TestOf(t *testing.T) {
	long := bytes.Repeat([]byte{'x'}, 300)
	for i, c := range []struct {
		got   api.Hash
		texts []byte
	}{
		{hash.Of(""), []byte{0}},
		{hash.Of("ab"), []byte{2, 'a', 'b'}},
		{hash.Of("", nil), []byte{0, 0}},
		{hash.Of("ab", nil, []byte{}), []byte{2, 'a', 'b', 0, 0}},
		{hash.Of("ab", []byte("c"), []byte("de")), []byte{2, 'a', 'b', 1, 'c', 2, 'd', 'e'}},
		{hash.Of("ab", []byte{0, 255}), []byte{2, 'a', 'b', 2, 0, 255}},
		{hash.Of("\xff\x00", []byte("é")), []byte{2, 0xff, 0, 2, 0xc3, 0xa9}},
		{hash.Of("ab", long), append([]byte{2, 'a', 'b', 172, 2}, long...)},
		{hash.Of(string(long), []byte("ab")), append(append([]byte{172, 2}, long...), 2, 'a', 'b')},
	} {
		if want := digestOf(c.texts); c.got != want {
			t.Errorf("%d: %x, not %x", i, c.got, want)
		}
	}
}

// P2.1: what Of sums up is what a maker of code makes of the same texts.
func TestOfIsOfTexts(t *testing.T) {
	b := row(400)
	for many := range len(b) {
		tag, part := b[:many/3], b[many/3:many]
		texts, e := (&code.Maker{}).Text(tag, part, nil, part).Done()
		if e != api.OK {
			t.Fatalf("Done: %d", e)
		}
		if hash.Of(string(tag), part, nil, part) != digestOf(texts) {
			t.Errorf("of %d bytes: another hash", many)
		}
	}
}

// P2.1: a text that is longer than one may be is put by its length, and its bytes, likewise.
func TestOfLongTexts(t *testing.T) {
	const most = 1 << 20
	b := row(most + 1)
	for _, c := range []struct {
		many int
		size []byte
	}{{most, []byte{128, 128, 64}}, {most + 1, []byte{129, 128, 64}}} {
		text := b[:c.many]
		asTag := bytes.Join([][]byte{c.size, text, {1, 'a'}}, nil)
		asPart := bytes.Join([][]byte{{1, 'a'}, c.size, text, {0}}, nil)
		if hash.Of(string(text), []byte("a")) != digestOf(asTag) {
			t.Errorf("a tag of %d bytes: another hash", c.many)
		}
		if hash.Of("a", text, nil) != digestOf(asPart) {
			t.Errorf("a part of %d bytes: another hash", c.many)
		}
	}
}
