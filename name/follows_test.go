package name_test

import (
	"fmt"
	"math/rand"
	"slices"
	"strings"
	"testing"

	"spence/api"
	"spence/base"
	"spence/name"
	"spence/refs"
)

// P11.4: what is made checks, and refers to just those of the paths that stand in its bytes.
func TestMadeChecks(t *testing.T) {
	r := rand.New(rand.NewSource(14))
	many := 0
	for range 2000 {
		letters := []string{plain, another, third, halves, noughts}
		b := someBytes(r, 8, letters...)
		of := somePaths(r, 8, b, letters...)
		o, own, e := name.Make("n", b, hashOf(letters[r.Intn(5)]), of...)
		if e != api.OK {
			continue
		}
		many++
		what := fmt.Sprintf("%q, %v", b, of)
		wantError(t, what, name.Check(o, own), api.OK)
		if !name.Right(o) || o.Path.Name != "n" || len(own) != len(b) {
			t.Errorf("%s: %v", what, o)
		}
		put, e := name.Put(o)
		wantError(t, what, e, api.OK)
		got, e := name.Get(put)
		wantError(t, what, e, api.OK)
		wantObject(t, what, got, o)
		if t.Failed() {
			t.FailNow()
		}
	}
	if many < 500 {
		t.Errorf("%d made", many)
	}
}

// P11.4: with another hash for itself, that stands nowhere in the bytes either, at the same places, the object is the same.
func TestAnotherSelf(t *testing.T) {
	r := rand.New(rand.NewSource(15))
	selves := []string{plain, strings.Repeat("ab", 16), "z" + strings.Repeat("1", 30) + "w", base.Letters(api.Hash{5, 5, 5})}
	many := 0
	for range 1000 {
		// Pieces of what stands for itself would be other bytes.
		letters := []string{plain, another, third, halves}
		b := someBytes(r, 8, letters...)
		of := somePaths(r, 6, b, letters[1:]...)
		o, own, e := name.Make("n", b, hashOf(plain), of...)
		for _, s := range selves[1:] {
			x := refs.Rewrite(b, hashOf(plain), hashOf(s))
			if strings.Contains(string(b), s) || !slices.Equal(plainPlaces(x, s), plainPlaces(b, plain)) || len(refs.Found(x, of...)) != len(refs.Found(b, of...)) {
				continue
			}
			many++
			what := fmt.Sprintf("%q, %s, %v", b, s, of)
			again, bytes, e2 := name.Make("n", x, hashOf(s), of...)
			wantError(t, what, e2, e)
			wantObject(t, what, again, o)
			wantBytes(t, what, bytes, string(own))
		}
		if t.Failed() {
			t.FailNow()
		}
	}
	if many < 1000 {
		t.Errorf("%d made", many)
	}
}

// P11.4: made of its own bytes, its own hash standing for itself, an object is the same.
func TestMadeAgain(t *testing.T) {
	r := rand.New(rand.NewSource(16))
	many := 0
	for range 1000 {
		letters := []string{plain, another, third, halves}
		b := someBytes(r, 8, letters...)
		of := somePaths(r, 6, b, letters[1:]...)
		o, own, e := name.Make("n", b, hashOf(plain), of...)
		if e != api.OK {
			continue
		}
		many++
		what := fmt.Sprintf("%q, %v", b, of)
		again, bytes := made(t, "n", own, o.Path.Hash, append(o.Refs, o.Path)...)
		wantObject(t, what, again, o)
		wantBytes(t, what, bytes, string(own))
		if t.Failed() {
			t.FailNow()
		}
	}
	if many < 500 {
		t.Errorf("%d made", many)
	}
}
