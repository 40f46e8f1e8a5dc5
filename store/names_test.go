package store_test

import (
	"fmt"
	"strings"
	"testing"

	"spence/api"
	"spence/view"
)

// P16.2: a root is kept by a name, of what the user holds; its path is told.
func TestRoot(t *testing.T) {
	b := formatted(t, some, some)
	p := b.must(t, "a", adds(1, "a", file("x")))[0]
	q := b.must(t, "b", adds(1, "b", file("y")))[0]
	wantPaths(t, "told", b.must(t, "root", roots(1, "r", p)), []api.Path{p})
	wantPaths(t, "told", b.must(t, "roots", roots(1, "r", q), roots(1, "a", p), roots(1, strings.Repeat("n", 24), p)), []api.Path{q, p, p})
	b.again(t, "roots")
	b.must(t, "the same again", roots(1, "a", p))
	b.must(t, "another one's", adopts(2, p), roots(2, "r", p))
	b.again(t, "roots")
}

// P16.2: ErrRefs, unless the user holds it, ahead of view.Root's errors.
func TestRootErrors(t *testing.T) {
	b := formatted(t, some, api.Quota{Bytes: 100, Objects: 2, Roots: 1})
	p := b.must(t, "a", adds(1, "a", file("x")))[0]
	q := b.must(t, "b", adds(2, "b", file("y")))[0]
	for _, path := range []api.Path{q, {}, {Hash: p.Hash, Name: "b"}, {Hash: api.Hash{1}, Name: "a"}} {
		b.refused(t, "not held", api.ErrRefs, roots(1, "r", path))
		b.refused(t, "not held, and no name", api.ErrRefs, roots(1, "", path))
	}
	for _, text := range []string{"", ".r", "a b", "a/b", strings.Repeat("n", 25), "é"} {
		b.refused(t, "no name: "+text, api.ErrArg, roots(1, text, p))
	}
	b.must(t, "one", roots(2, "r", q))
	b.refused(t, "no name, ahead of a quota", api.ErrArg, roots(2, ".", q))
	b.refused(t, "one more", api.ErrQuota, roots(2, "s", q))
	b.refused(t, "not held, ahead of a quota", api.ErrRefs, roots(2, "s", p))
	b.must(t, "the same name", roots(2, "r", q))
	b.must(t, "one goes, one comes", unroots(2, "r"), roots(2, "s", q))
}

// P16.2: what is a root no more is told; ErrNone, if there is none.
func TestUnroot(t *testing.T) {
	b := formatted(t, some, some)
	p := b.must(t, "a", adds(1, "a", file("x")))[0]
	b.must(t, "roots", roots(1, "r", p), roots(1, "s", p))
	for _, text := range []string{"", "q", "rr", "R", ".", strings.Repeat("n", 99)} {
		b.refused(t, "none", api.ErrNone, unroots(1, text))
	}
	b.refused(t, "another one's", api.ErrNone, unroots(2, "r"))
	wantPaths(t, "told", b.must(t, "unroot", unroots(1, "r")), []api.Path{p})
	b.refused(t, "again", api.ErrNone, unroots(1, "r"))
	b.again(t, "one is left")
	wantPaths(t, "told", b.must(t, "another one in between", unroots(1, "s"), roots(1, "s", p), unroots(1, "s")), []api.Path{p, p, p})
	b.again(t, "none is left")
}

// P16.2: a note has a value; nothing is told.
func TestNote(t *testing.T) {
	b := formatted(t, some, some)
	nothing := []api.Path{{}}
	wantPaths(t, "told", b.must(t, "note", notes(1, "k", 1, 2)), nothing)
	for _, key := range []string{"k", "\x00", "\xff", "é", " ", "a/b", strings.Repeat("k", 61), strings.Repeat("k", 62), "1", "q1"} {
		for _, val := range [][]byte{{1}, nil, {0, 0}, filled(1, 2048)} {
			wantPaths(t, "told", b.must(t, fmt.Sprintf("%q", key), notes(1, key, val...)), nothing)
		}
		if key != "k" {
			b.again(t, key)
			wantPaths(t, "told", b.must(t, "unnote", unnotes(1, key)), nothing)
		}
	}
	b.must(t, "another one's", notes(2, "k", 3))
	beside := notes(1, "l", 3)
	beside.Path = api.Path{Name: "a"}
	wantPaths(t, "told", b.must(t, "a path beside it is nothing", beside), nothing)
	b.again(t, "notes")
}

// P16.2: view.Note's and view.Unnote's errors.
func TestNoteErrors(t *testing.T) {
	b := formatted(t, some, api.Quota{Notes: 1}, none)
	for _, key := range []string{"", strings.Repeat("k", 63), strings.Repeat("k", 1000)} {
		b.refused(t, "no key", api.ErrArg, notes(1, key, 1))
		b.refused(t, "no key, and no value", api.ErrArg, notes(1, key, make([]byte, 2049)...))
		b.refused(t, "no key", api.ErrNone, unnotes(1, key))
	}
	b.refused(t, "too long", api.ErrLong, notes(1, "k", make([]byte, 2049)...))
	b.refused(t, "too long", api.ErrLong, notes(3, "k", make([]byte, 1<<20)...))
	b.refused(t, "none may be had", api.ErrQuota, notes(3, "k"))
	b.must(t, "one", notes(2, "k", 1))
	b.refused(t, "one more", api.ErrQuota, notes(2, "l", 1))
	b.must(t, "the same key", notes(2, "k", 2))
	b.refused(t, "none", api.ErrNone, unnotes(2, "l"))
	b.refused(t, "another one's", api.ErrNone, unnotes(1, "k"))
	b.must(t, "it goes", unnotes(2, "k"))
	b.refused(t, "again", api.ErrNone, unnotes(2, "k"))
	b.must(t, "another one", notes(2, "l", 1))
	b.again(t, "notes")
}

// P16.3: Roots and Notes are view's: in order, each user's own, those that begin so.
func TestRootsAndNotes(t *testing.T) {
	p, a, bp, c, _ := sample()
	b := laid(t, p)
	w := []view.Root{{Name: "-", Path: bp}, {Name: "a.1", Path: a}, {Name: "main", Path: bp}}
	if l := b.x.Roots(1); len(l) != 3 || l[0] != w[0] || l[1] != w[1] || l[2] != w[2] {
		t.Errorf("roots: %v", l)
	}
	if l := b.x.Notes(1, "k"); len(l) != 2 || l[0].Key != "k" || len(l[1].Val) != 2048 {
		t.Errorf("notes: %v", l)
	}
	for _, prefix := range []string{"kk", "\x00", "", "q", strings.Repeat("k", 63)} {
		if l := b.x.Notes(1, prefix); !sameRows(l, sortedNotes(p.users[0].notes, prefix)) {
			t.Errorf("notes that begin with %q: %v", prefix, l)
		}
	}
	for _, who := range []int{0, -1, 3, 4, 9} {
		if l, n := b.x.Roots(who), b.x.Notes(who, ""); len(l) != 0 || len(n) != 0 {
			t.Errorf("%d has %v, %v", who, l, n)
		}
	}
	b.must(t, "more", roots(2, "A", c), notes(2, "A", 1))
}
