package refs_test

import (
	"bytes"
	"fmt"
	"math/rand"
	"strings"
	"testing"

	"spence/api"
	"spence/base"
	"spence/refs"
)

// P10.1: places of a hash.
func TestPlaces(t *testing.T) {
	for _, c := range []struct {
		what, b, s string
		want       []int
	}{
		{"alone", plain, plain, []int{0}},
		{"a byte between", plain + " " + plain, plain, []int{0, 33}},
		{"one behind the other", plain + plain + plain, plain, []int{0, 32, 64}},
		{"amid", "ab" + plain + "cd", plain, []int{2}},
		{"at the end", strings.Repeat("x", 1000) + plain, plain, []int{1000}},
		{"behind what begins so", plain[:31] + plain, plain, []int{31}},
		{"behind its first letter", plain[:1] + plain, plain, []int{1}},
		{"behind one broken at its end", plain[:31] + "0" + plain, plain, []int{32}},
		{"behind another one", another + plain, plain, []int{32}},
		{"of another one", another + plain, another, []int{0}},
		{"amid all bytes", "\x00\xff" + plain + "\xff\x00" + plain, plain, []int{2, 36}},
		{"in a path's text", plain + "-hello", plain, []int{0}},
		{"over one another from the last letter", edges + edges[1:] + edges[1:], edges, []int{0, 62}},
		{"from the half", halves + halves[:16], halves, []int{0}},
		{"from the half, twice", halves + halves, halves, []int{0, 32}},
		{"from the half, behind a half of another one", another[16:] + halves + halves[:16], halves, []int{16}},
		{"of all bytes alike", strings.Repeat("0", 96), noughts, []int{0, 32, 64}},
		{"of each second", "0" + seconds + seconds[:30], seconds, []int{1}},
		{"of each second, and two behind", "0" + seconds + seconds, seconds, []int{1, 33}},
		{"of each fifth", strings.Repeat("vwxyz", 20), fifths, []int{0, 35}},
	} {
		wantPlaces(t, c.what, refs.Places([]byte(c.b), hashOf(c.s)), c.want...)
	}
}

// P10.1: bytes in which a hash does not stand.
func TestPlacesNone(t *testing.T) {
	h := hashOf(plain)
	for what, s := range map[string]string{
		"no bytes":              "",
		"another one":           another,
		"but its first letter":  plain[1:],
		"but its last letter":   plain[:31],
		"other bytes":           strings.Repeat("spence ", 100),
		"capitals":              strings.ToUpper(plain),
		"the hash's own bytes":  string(h[:]),
		"a byte amid":           plain[:16] + " " + plain[16:],
		"its halves, otherwise": plain[16:] + plain[:16],
		"32 noughts":            strings.Repeat("\x00", 32),
		"noughts' letters":      noughts,
		"backwards":             another + another,
	} {
		wantPlaces(t, what, refs.Places([]byte(s), h))
	}
	wantPlaces(t, "nil", refs.Places(nil, h))
	wantPlaces(t, "nil, of the zero hash", refs.Places(nil, api.Hash{}))
	wantPlaces(t, "noughts, of the zero hash", refs.Places(make([]byte, 100), api.Hash{}))
	for i := range 32 {
		for _, other := range []byte{0, ' ', plain[i] ^ 1, plain[i] ^ 0x80, plain[i] - 'a' + 'A'} {
			b := []byte(plain)
			b[i] = other
			wantPlaces(t, fmt.Sprintf("%q", b), refs.Places(b, h))
		}
	}
}

// P10.1: so many bytes alike have so many places, none over another one.
func TestPlacesOfBytesAlike(t *testing.T) {
	for many := range 300 {
		var w []int
		for at := 0; at+32 <= many; at += 32 {
			w = append(w, at)
		}
		b := bytes.Repeat([]byte{'0'}, many)
		wantPlaces(t, fmt.Sprint(many), refs.Places(b, api.Hash{}), w...)
	}
}

// P10.1: a hash's bits, one by one, are seen where its letters stand, and there alone.
func TestPlacesOfEachBit(t *testing.T) {
	for bit := range 160 {
		var h api.Hash
		h[bit/8] = 1 << (bit % 8)
		b := []byte("ab" + noughts + base.Letters(h))
		wantPlaces(t, fmt.Sprint("bit ", bit), refs.Places(b, h), plainPlaces(b, base.Letters(h))...)
		wantPlaces(t, fmt.Sprint("without bit ", bit), refs.Places(b[34:], api.Hash{}))
	}
}

// P10.1: rows of letters by chance, held against the chapter's words.
func TestPlacesByChance(t *testing.T) {
	r := rand.New(rand.NewSource(1))
	met := 0
	for range 5000 {
		of := someHashes()[r.Intn(3):]
		b := someBytes(r, 8, of[:1+r.Intn(3)]...)
		for _, s := range someHashes() {
			w := plainPlaces(b, s)
			wantPlaces(t, fmt.Sprintf("%q in %q", s, b), refs.Places(b, hashOf(s)), w...)
			met += len(w)
		}
		if t.Failed() {
			t.FailNow()
		}
	}
	if met < 10000 {
		t.Errorf("%d places", met)
	}
}

// P10.1: of many bytes, too.
func TestPlacesOfMany(t *testing.T) {
	b := bytes.Repeat([]byte("0"), 1<<22)
	l := refs.Places(b, api.Hash{})
	if len(l) != 1<<17 || l[1<<17-1] != 1<<22-32 {
		t.Errorf("%d places", len(l))
	}
	wantPlaces(t, "almost so", refs.Places(b, hashOf(noughts[:31]+"1")))
	wantPlaces(t, "almost so, ahead", refs.Places(b, hashOf("1"+noughts[:31])))
	b[1<<22-32] = '1'
	wantPlaces(t, "at the end", refs.Places(b, hashOf("1"+noughts[:31])), 1<<22-32)
}

// R3, R4: bytes are not changed, and what is told is new memory.
func TestPlacesSharesNothing(t *testing.T) {
	b := []byte("a" + plain + plain)
	l := refs.Places(b, hashOf(plain))
	wantBytes(t, "the bytes", b, "a"+plain+plain)
	clear(b)
	wantPlaces(t, "told", l, 1, 33)
	copy(b, "a"+plain+plain)
	clear(l[:cap(l)])
	wantPlaces(t, "told again", refs.Places(b, hashOf(plain)), 1, 33)
}
