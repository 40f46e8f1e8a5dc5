package refs_test

import (
	"bytes"
	"fmt"
	"math/rand"
	"slices"
	"strings"
	"testing"

	"spence/api"
	"spence/base"
	"spence/refs"
)

// P10.1: paths whose hashes stand in bytes.
func TestFound(t *testing.T) {
	none, two, five, half, edge := pathOf(noughts, "n"), pathOf(seconds, "s"), pathOf(fifths, "f"), pathOf(halves, "h"), pathOf(edges, "e")
	one, back := pathOf(plain, "p"), pathOf(another, "a")
	for _, c := range []struct {
		what, b  string
		of, want []api.Path
	}{
		{"alone", plain, []api.Path{one}, []api.Path{one}},
		{"one of two", "ab" + plain + "c", []api.Path{one, back}, []api.Path{one}},
		{"the other one", another, []api.Path{one, back}, []api.Path{back}},
		{"both", plain + another, []api.Path{one, back}, []api.Path{one, back}},
		{"given otherwise", plain + another, []api.Path{back, one}, []api.Path{one, back}},
		{"standing otherwise", another + plain, []api.Path{back, one}, []api.Path{one, back}},
		{"none of them", "some bytes", []api.Path{one, back}, nil},
		{"no paths", plain, nil, nil},
		{"no bytes", "", []api.Path{one, none}, nil},
		{"given twice", plain, []api.Path{one, back, one, one}, []api.Path{one}},
		{"standing twice", plain + plain, []api.Path{one}, []api.Path{one}},
		{"at the end", strings.Repeat("0", 1001) + plain[1:], []api.Path{one, back, none}, []api.Path{none, one}},
		{"a letter too few", plain[:31], []api.Path{one}, nil},
		{"a letter too few at each side", plain[1:] + plain[:31], []api.Path{one}, nil},
		{"over one another", "z" + strings.Repeat("1", 30) + "z" + strings.Repeat("1", 30) + "z" + noughts[1:], []api.Path{edge, pathOf("z"+noughts[1:], "z"), none}, []api.Path{edge, pathOf("z"+noughts[1:], "z")}},
		{"at a place over one of its own", seconds + "a", []api.Path{two, pathOf("0"+seconds[:31], "s")}, []api.Path{two, pathOf("0"+seconds[:31], "s")}},
		{"its half behind it", plain[:16] + halves + halves[:16], []api.Path{half, pathOf(halves[8:]+halves[:8], "x")}, []api.Path{half, pathOf(halves[8:]+halves[:8], "x")}},
		{"all of each fifth", strings.Repeat("vwxyz", 8), []api.Path{five, pathOf(fifths[1:]+"x", "g"), pathOf(fifths[2:]+"xy", "h"), two}, []api.Path{five, pathOf(fifths[1:]+"x", "g"), pathOf(fifths[2:]+"xy", "h")}},
		{"the zero hash", noughts, []api.Path{{}, one}, []api.Path{{}}},
		{"the zero hash, of bytes of 0", strings.Repeat("\x00", 64), []api.Path{{}, none}, nil},
		{"a path's text", plain + "-p", []api.Path{one, pathOf(plain, "q")}, []api.Path{one, pathOf(plain, "q")}},
	} {
		// Paths are in order by their hashes' bytes, which are not their letters'.
		wantPaths(t, c.what, refs.Found([]byte(c.b), c.of...), plainFound([]byte(c.b), c.want...)...)
		if len(c.want) != len(plainFound([]byte(c.b), c.of...)) {
			t.Errorf("%s: plainly %v", c.what, plainFound([]byte(c.b), c.of...))
		}
	}
	wantPaths(t, "nil", refs.Found(nil, one))
	wantPaths(t, "nil, none", refs.Found(nil))
}

// P10.1: paths are told in order, by their hashes' bytes, then by their names' bytes, each once.
func TestFoundInOrder(t *testing.T) {
	// Their letters stand otherwise: 0, 1, noughts ahead of 1, noughts.
	low, high := api.Hash{1}, api.Hash{32}
	w := []api.Path{{Hash: low, Name: "z"}}
	for _, name := range []string{"", "+", "-", "0", "A", "Z", "_", "a", "a path's name that is far too long for one", "a.", "aa", "ab", "b", "é", "\xff"} {
		w = append(w, api.Path{Hash: high, Name: name})
	}
	given := append(slices.Clone(w), w...)
	rand.New(rand.NewSource(2)).Shuffle(len(given), func(i, j int) { given[i], given[j] = given[j], given[i] })
	given = append(given, pathOf(noughts, "a"))
	wantPaths(t, "names", refs.Found([]byte("01"+noughts[2:]+"1"+noughts[1:]), given...), w...)
}

// P10.1: where only some of many paths' hashes stand, these are told.
func TestFoundOfMany(t *testing.T) {
	r := rand.New(rand.NewSource(3))
	var all, w []api.Path
	var b []byte
	for i := range 500 {
		var h api.Hash
		r.Read(h[:])
		p := api.Path{Hash: h, Name: fmt.Sprint(i)}
		all = append(all, p)
		text := []byte(base.Letters(h))
		if i%3 == 0 {
			w = append(w, p)
		} else {
			text[r.Intn(32)] ^= 0x40
		}
		b = append(append(b, make([]byte, r.Intn(40))...), text...)
	}
	wantPaths(t, "a third", refs.Found(b, all...), plainFound(b, w...)...)
	if len(plainFound(b, all...)) != len(w) {
		t.Error("plainly others")
	}
	wantPaths(t, "many bytes", refs.Found(append(make([]byte, 1<<22), b...), all...), plainFound(b, w...)...)
}

// P10.1: rows of letters by chance, held against the chapter's words.
func TestFoundByChance(t *testing.T) {
	r := rand.New(rand.NewSource(4))
	met := 0
	for range 3000 {
		b := someBytes(r, 6, someHashes()...)
		var of []api.Path
		for range r.Intn(8) {
			s := someHashes()[r.Intn(7)]
			if r.Intn(3) == 0 {
				turn := r.Intn(32)
				s = s[turn:] + s[:turn]
			}
			of = append(of, pathOf(s, string(rune('a'+r.Intn(3)))))
		}
		w := plainFound(b, of...)
		wantPaths(t, fmt.Sprintf("%v in %q", of, b), refs.Found(b, of...), w...)
		met += len(w)
		if t.Failed() {
			t.FailNow()
		}
	}
	if met < 1000 {
		t.Errorf("%d found", met)
	}
}

// P10.1: a hash is found just where it has places.
func TestFoundHasPlaces(t *testing.T) {
	r := rand.New(rand.NewSource(5))
	for range 2000 {
		b := someBytes(r, 5, someHashes()...)
		for _, s := range someHashes() {
			p := pathOf(s, "p")
			if found, l := refs.Found(b, p), refs.Places(b, p.Hash); (len(found) == 1) != (len(l) > 0) {
				t.Fatalf("%q in %q: %v, %v", s, b, found, l)
			}
		}
	}
}

// R3, R4: what is given is not changed, and what is told is new memory.
func TestFoundSharesNothing(t *testing.T) {
	b := []byte(plain + another + plain)
	of := []api.Path{pathOf(plain, "q"), pathOf(another, "z"), pathOf(noughts, "n"), pathOf(plain, "p"), pathOf(plain, "q")}
	slices.SortFunc(of, func(p, q api.Path) int { return strings.Compare(q.Name, p.Name) })
	wasB, wasOf := bytes.Clone(b), slices.Clone(of)
	w := plainFound(b, of...)
	l := refs.Found(b, of...)
	wantPaths(t, "the paths", of, wasOf...)
	wantBytes(t, "the bytes", b, string(wasB))
	clear(b)
	clear(of)
	wantPaths(t, "told", l, w...)
	copy(b, wasB)
	clear(l[:cap(l)])
	wantPaths(t, "told again", refs.Found(b, wasOf...), w...)
	one := []api.Path{pathOf(plain, "p")}
	l = refs.Found(b, one...)
	l[0].Name = "q"
	wantPaths(t, "the path", one, pathOf(plain, "p"))
}
