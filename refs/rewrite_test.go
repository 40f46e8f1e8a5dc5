package refs_test

import (
	"bytes"
	"fmt"
	"math/rand"
	"strings"
	"testing"

	"spence/api"
	"spence/refs"
)

// blanks are what stands in place of a hash that is blanked.
var blanks = strings.Repeat("\x00", 32)

// P10.2: a hash's letters, with another one's in their place.
func TestRewrite(t *testing.T) {
	for _, c := range []struct{ what, b, from, to, want string }{
		{"alone", plain, plain, another, another},
		{"twice", plain + " " + plain, plain, another, another + " " + another},
		{"amid", "ab" + plain + "cd", plain, another, "ab" + another + "cd"},
		{"one behind the other", plain + plain, plain, noughts, noughts + noughts},
		{"by itself", plain + "a" + plain, plain, plain, plain + "a" + plain},
		{"nowhere", another + "a" + plain[1:], plain, noughts, another + "a" + plain[1:]},
		{"with the last letter of another one", another + plain[1:], plain, noughts, another[:31] + noughts},
		{"no bytes", "", plain, another, ""},
		{"the other one's stay", another + plain + another, plain, another, another + another + another},
		{"of the other one's", another + plain, another, plain, plain + plain},
		{"not where it stands over one ahead", edges + edges[1:], edges, plain, plain + edges[1:]},
		{"bytes alike", "000" + noughts + noughts[3:], noughts, plain, plain + plain},
		{"bytes alike, and one behind", noughts + noughts + "0", noughts, plain, plain + plain + "0"},
		{"each second", "0" + seconds + "a0a0", seconds, noughts, "0" + noughts + "a0a0"},
		// What is put in does not become a place of from's: only those of the bytes count.
		{"letters that go on as from's", "1" + noughts + noughts[:31], noughts, "z" + noughts[1:], "1z" + noughts[1:] + noughts[:31]},
		{"letters that end as from begins", halves + halves[16:], halves, plain[16:] + plain[:16], plain[16:] + plain[:16] + halves[16:]},
		{"bytes of all kinds", "\x00\xff\n" + plain + "\xe0\x80", plain, another, "\x00\xff\n" + another + "\xe0\x80"},
	} {
		wantBytes(t, c.what, refs.Rewrite([]byte(c.b), hashOf(c.from), hashOf(c.to)), c.want)
	}
	if b := refs.Rewrite(nil, hashOf(plain), hashOf(another)); len(b) != 0 {
		t.Errorf("nil: %q", b)
	}
	if b := refs.Rewrite(make([]byte, 32), api.Hash{}, hashOf(plain)); string(b) != blanks {
		t.Errorf("noughts are not the zero hash's letters: %q", b)
	}
}

// P10.2: a hash's letters, with noughts in their place.
func TestBlank(t *testing.T) {
	for _, c := range []struct {
		what, b, s, want string
		at               []int
	}{
		{"alone", plain, plain, blanks, []int{0}},
		{"twice", plain + " " + plain, plain, blanks + " " + blanks, []int{0, 33}},
		{"amid", "ab" + plain + "cd", plain, "ab" + blanks + "cd", []int{2}},
		{"one behind the other", plain + plain + "0", plain, blanks + blanks + "0", []int{0, 32}},
		{"nowhere", another + "a" + plain[1:], plain, another + "a" + plain[1:], nil},
		{"with the last letter of another one", another + plain[1:], plain, another[:31] + blanks, []int{31}},
		{"no bytes", "", plain, "", nil},
		{"noughts ahead", blanks + plain, plain, blanks + blanks, []int{32}},
		{"noughts' letters", "0" + noughts + blanks, noughts, blanks + "0" + blanks, []int{0}},
		{"not where it stands over one ahead", edges + edges[1:], edges, blanks + edges[1:], []int{0}},
		{"another one's stay", another + plain + noughts, plain, another + blanks + noughts, []int{32}},
		{"each second", "0" + seconds + "a0a0", seconds, "0" + blanks + "a0a0", []int{1}},
	} {
		b, l := refs.Blank([]byte(c.b), hashOf(c.s))
		wantBytes(t, c.what, b, c.want)
		wantPlaces(t, c.what, l, c.at...)
	}
	if b, l := refs.Blank(nil, api.Hash{}); len(b) != 0 || len(l) != 0 {
		t.Errorf("nil: %q, %v", b, l)
	}
	b, l := refs.Blank(make([]byte, 64), api.Hash{})
	wantBytes(t, "noughts", b, blanks+blanks)
	wantPlaces(t, "noughts", l)
}

// P10.2: rows of letters by chance, held against the chapter's words.
func TestChangedByChance(t *testing.T) {
	r := rand.New(rand.NewSource(6))
	changed := 0
	for range 3000 {
		of := someHashes()[r.Intn(7):]
		b := someBytes(r, 6, of...)
		from, to := of[r.Intn(len(of))], someHashes()[r.Intn(7)]
		at := plainPlaces(b, from)
		what := fmt.Sprintf("%q in %q", from, b)
		wantBytes(t, what+", by "+to, refs.Rewrite(b, hashOf(from), hashOf(to)), string(plainWith(b, to, at)))
		x, l := refs.Blank(b, hashOf(from))
		wantBytes(t, what+", blanked", x, string(plainWith(b, blanks, at)))
		wantPlaces(t, what+", blanked", l, at...)
		changed += len(at)
		if t.Failed() {
			t.FailNow()
		}
	}
	if changed < 1000 {
		t.Errorf("%d changed", changed)
	}
}

// R3, R4: bytes are not changed, whether a hash stands there or not, and what is told is new memory.
func TestChangedSharesNothing(t *testing.T) {
	for _, s := range []string{plain, noughts} {
		h, to := hashOf(s), hashOf(another)
		behind := []byte("ab" + plain + "c" + plain + "behind")
		b := behind[: len(behind)-6 : len(behind)]
		was := bytes.Clone(behind)
		rewritten := refs.Rewrite(b, h, to)
		blanked, l := refs.Blank(b, h)
		wantBytes(t, "the bytes", behind, string(was))
		wasRewritten, wasBlanked := string(rewritten), string(blanked)
		clear(b)
		wantBytes(t, "rewritten", rewritten, wasRewritten)
		wantBytes(t, "blanked", blanked, wasBlanked)
		copy(b, was)
		clear(rewritten[:cap(rewritten)])
		wantBytes(t, "blanked, and not rewritten", blanked, wasBlanked)
		clear(blanked[:cap(blanked)])
		clear(l[:cap(l)])
		wantBytes(t, "the bytes, again", behind, string(was))
		wantBytes(t, "rewritten again", refs.Rewrite(b, h, to), wasRewritten)
		blanked, l = refs.Blank(b, h)
		wantBytes(t, "blanked again", blanked, wasBlanked)
		wantPlaces(t, "blanked again", l, plainPlaces(b, s)...)
	}
}

// R6: of no bytes, nil or not, the same is told.
func TestOfNoBytes(t *testing.T) {
	h := hashOf(plain)
	if a, b := refs.Rewrite(nil, h, h), refs.Rewrite([]byte{}, h, h); (a == nil) != (b == nil) {
		t.Errorf("%#v, %#v", a, b)
	}
	a, _ := refs.Blank(nil, h)
	if b, _ := refs.Blank([]byte{}, h); (a == nil) != (b == nil) {
		t.Errorf("%#v, %#v", a, b)
	}
}
