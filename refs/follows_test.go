package refs_test

import (
	"bytes"
	"fmt"
	"math/rand"
	"strings"
	"testing"

	"spence/refs"
)

// wantOtherwiseAt asks that bytes are as many as they were, and are others at places alone.
func wantOtherwiseAt(t *testing.T, what string, b, x []byte, l []int) {
	t.Helper()
	if len(x) != len(b) {
		t.Errorf("%s: %d bytes, not %d", what, len(x), len(b))
		return
	}
	left := 0
	for _, at := range append(l, len(b)) {
		if !bytes.Equal(x[left:at], b[left:at]) {
			t.Errorf("%s: other bytes ahead of %d", what, at)
		}
		left = at + 32
	}
}

// P10.3: what is rewritten, or blanked, is as long as it was, and is another one at the hash's places alone.
func TestOtherwiseAtPlacesAlone(t *testing.T) {
	r := rand.New(rand.NewSource(7))
	for range 2000 {
		b := someBytes(r, 6, someHashes()...)
		from, to := hashOf(someHashes()[r.Intn(7)]), hashOf(someHashes()[r.Intn(7)])
		l := refs.Places(b, from)
		wantOtherwiseAt(t, fmt.Sprintf("%q, rewritten", b), b, refs.Rewrite(b, from, to), l)
		x, at := refs.Blank(b, from)
		wantPlaces(t, fmt.Sprintf("%q, blanked", b), at, l...)
		wantOtherwiseAt(t, fmt.Sprintf("%q, blanked", b), b, x, l)
		if t.Failed() {
			t.FailNow()
		}
	}
}

// overEdge says whether letters stand in bytes elsewhere than at places.
func overEdge(b []byte, s string, l []int) bool {
	for at := range b {
		if plainStands(b, s, at) && (len(l) == 0 || at != l[0]) {
			return true
		}
		for len(l) > 0 && l[0] <= at {
			l = l[1:]
		}
	}
	return false
}

// P10.3: rewritten back bytes are what they were, where to stands nowhere in them, nor over the edge of what is put in.
func TestRewrittenBack(t *testing.T) {
	r := rand.New(rand.NewSource(8))
	back, edge := 0, 0
	for range 5000 {
		b := someBytes(r, 6, someHashes()...)
		from, to := someHashes()[r.Intn(7)], someHashes()[r.Intn(7)]
		l := plainPlaces(b, from)
		if strings.Contains(string(b), to) || len(l) == 0 {
			continue
		}
		x := refs.Rewrite(b, hashOf(from), hashOf(to))
		if overEdge(x, to, l) {
			edge++
			continue
		}
		back++
		wantBytes(t, fmt.Sprintf("%q from %s to %s", b, from, to), refs.Rewrite(x, hashOf(to), hashOf(from)), string(b))
		if t.Failed() {
			t.FailNow()
		}
	}
	if back < 500 || edge < 20 {
		t.Errorf("%d rewritten back, %d over an edge", back, edge)
	}
}

// P10.3: what is blanked hangs on the hash's places, and not on what stands there: with another hash there it is the same.
func TestBlankedAlike(t *testing.T) {
	b := []byte("ab" + plain + "c" + plain + fifths)
	x, l := refs.Blank(b, hashOf(plain))
	y, at := refs.Blank(refs.Rewrite(b, hashOf(plain), hashOf(another)), hashOf(another))
	wantBytes(t, "blanked", y, string(x))
	wantPlaces(t, "blanked", at, l...)
}
