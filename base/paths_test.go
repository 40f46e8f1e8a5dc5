package base_test

import (
	"bytes"
	"math/rand"
	"slices"
	"strings"
	"testing"

	"spence/api"
	"spence/base"
)

// P3.2: paths' texts.
func TestPath(t *testing.T) {
	most := strings.Repeat("n", api.MaxName)
	noughts := strings.Repeat("0", 32)
	for _, c := range []struct {
		p    api.Path
		want string
	}{
		{api.Path{Name: "a"}, noughts + "-a"},
		{api.Path{Name: "-"}, noughts + "--"},
		{api.Path{Hash: hashOf(33), Name: "Gcc-14.2"}, "11" + strings.Repeat("0", 30) + "-Gcc-14.2"},
		{api.Path{Hash: hashOf(31), Name: most}, "z" + strings.Repeat("0", 31) + "-" + most},
	} {
		if s, e := base.Path(c.p); s != c.want || e != api.OK {
			t.Errorf("%v: %q, %d, not %q", c.p, s, e, c.want)
		}
		if p, e := base.Parse(c.want); p != c.p || e != api.OK {
			t.Errorf("%q: %v, %d", c.want, p, e)
		}
	}
}

// P3.2: a path whose name is none has no text.
func TestPathWrong(t *testing.T) {
	for _, name := range []string{"", ".", ".a", "a b", "é", "\xff", strings.Repeat("n", api.MaxName+1)} {
		for _, h := range []api.Hash{hashOf(), hashOf(33)} {
			if s, e := base.Path(api.Path{Hash: h, Name: name}); s != "" || e != api.ErrArg {
				t.Errorf("%q: %q, %d", name, s, e)
			}
		}
	}
}

// P3.2: what is no path's text.
func TestParseWrong(t *testing.T) {
	noughts := strings.Repeat("0", 32)
	most := strings.Repeat("n", api.MaxName)
	wrong := []string{
		"", "-", "-a", "a", noughts, noughts + "-", noughts + "a", noughts + "_a", noughts + "a-", noughts + "0-a", noughts[1:] + "-a", noughts[1:] + "--a",
		noughts + "-.", noughts + "-.a", noughts + "-a b", noughts + "-a/", noughts + "-\xff", noughts + "-" + most + "n",
		noughts + "–a", noughts + "-é", noughts + " -a", " " + noughts + "-a", noughts + "-a\n",
		"e" + noughts[1:] + "-a", noughts[1:] + "Z-a", "é" + noughts[2:] + "-a", "é" + noughts[1:] + "-a", strings.Repeat("-", 40), strings.Repeat("-", 5000),
	}
	for _, s := range wrong {
		if p, e := base.Parse(s); p != (api.Path{}) || e != api.ErrShape {
			t.Errorf("%q: %v, %d", s, p, e)
		}
	}
	whole := noughts + "-name"
	for n := range 34 {
		if p, e := base.Parse(whole[:n]); p != (api.Path{}) || e != api.ErrShape {
			t.Errorf("%q: %v, %d", whole[:n], p, e)
		}
	}
}

// somePaths are paths of which many have one hash, or one name, or stand there twice.
func somePaths(r *rand.Rand, many int) []api.Path {
	names := []string{"a", "aa", "ab", "b", "A", "_", "+", "-", "a.", "0", "", ".", "\xff", "é"}
	var l []api.Path
	for range many {
		h := hashOf(byte(r.Intn(3)*127), byte(r.Intn(2)))
		h[19] = byte(r.Intn(2) * 255)
		l = append(l, api.Path{Hash: h, Name: names[r.Intn(len(names))]})
	}
	return l
}

// slowLess says whether a is ahead of b, byte by byte after the chapter's words.
func slowLess(a, b api.Path) bool {
	x, y := append(a.Hash[:], a.Name...), append(b.Hash[:], b.Name...)
	for i := range min(len(x), len(y)) {
		if x[i] != y[i] {
			return x[i] < y[i]
		}
	}
	return len(x) < len(y)
}

// P3.2: what is ahead of what.
func TestLess(t *testing.T) {
	last := api.Hash{}
	last[19] = 1
	// Each is ahead of all that stand behind it. 16 and 1 are ordered by their bytes, and otherwise by their letters: 0 0.. and 1 0...
	row := []api.Path{
		{Name: ""}, {Name: "+"}, {Name: "-"}, {Name: "0"}, {Name: "A"}, {Name: "Z"}, {Name: "_"}, {Name: "a"}, {Name: "a."}, {Name: "aa"}, {Name: "b"}, {Name: "é"},
		{Hash: last, Name: "a"}, {Hash: hashOf(0, 1), Name: "a"}, {Hash: hashOf(1), Name: "a"}, {Hash: hashOf(16)}, {Hash: hashOf(32), Name: "a"}, {Hash: hashOf(127), Name: "z"}, {Hash: hashOf(128), Name: "a"}, {Hash: hashOf(255), Name: "b"},
	}
	for i, a := range row {
		for j, b := range row {
			if base.Less(a, b) != (i < j) {
				t.Errorf("Less(%v, %v): %t", a, b, !(i < j))
			}
		}
	}
	r := rand.New(rand.NewSource(4))
	l := somePaths(r, 120)
	for _, a := range l {
		for _, b := range l {
			if base.Less(a, b) != slowLess(a, b) {
				t.Fatalf("Less(%v, %v): %t", a, b, base.Less(a, b))
			}
		}
	}
}

// P3.2: paths, each once, in order; none of none.
func TestSorted(t *testing.T) {
	if l := base.Sorted(); len(l) != 0 {
		t.Errorf("of none: %v", l)
	}
	one, two := api.Path{Hash: hashOf(9), Name: "b"}, api.Path{Hash: hashOf(9), Name: "a"}
	for _, c := range []struct{ l, want []api.Path }{
		{[]api.Path{}, nil},
		{[]api.Path{one}, []api.Path{one}},
		{[]api.Path{one, one}, []api.Path{one}},
		{[]api.Path{one, two}, []api.Path{two, one}},
		{[]api.Path{one, two, one, two, two}, []api.Path{two, one}},
		{[]api.Path{{}, one, {}}, []api.Path{{}, one}},
	} {
		if got := base.Sorted(c.l...); !slices.Equal(got, c.want) {
			t.Errorf("%v: %v, not %v", c.l, got, c.want)
		}
	}
	r := rand.New(rand.NewSource(5))
	for many := range 200 {
		l := somePaths(r, many)
		got := base.Sorted(l...)
		for i := range len(got) - 1 {
			if !slowLess(got[i], got[i+1]) {
				t.Fatalf("%v ahead of %v", got[i], got[i+1])
			}
		}
		for _, p := range l {
			if !slices.Contains(got, p) {
				t.Fatalf("%v is left out", p)
			}
		}
		for _, p := range got {
			if !slices.Contains(l, p) {
				t.Fatalf("%v was not there", p)
			}
		}
	}
}

// P3.3: a path that has a text is told of it again, and no two have one.
func TestPathAndBack(t *testing.T) {
	r := rand.New(rand.NewSource(6))
	seen := map[string]api.Path{}
	for range 2000 {
		p := api.Path{Hash: someHash(r), Name: strings.Repeat("-a", r.Intn(12)) + "+.b"[r.Intn(2):][:1+r.Intn(2)]}
		if strings.HasPrefix(p.Name, ".") {
			continue
		}
		s, e := base.Path(p)
		if e != api.OK {
			t.Fatalf("%v: %d", p, e)
		}
		if before, ok := seen[s]; ok && before != p {
			t.Fatalf("%v and %v have one text", before, p)
		}
		seen[s] = p
		if back, e := base.Parse(s); back != p || e != api.OK {
			t.Fatalf("%q: %v, %d, not %v", s, back, e, p)
		}
	}
}

// R3, R4: what is handed in stays as it was, what is handed out is new, and it is the same each time.
func TestSortedChangesNothing(t *testing.T) {
	r := rand.New(rand.NewSource(7))
	l := somePaths(r, 60)
	before := slices.Clone(l)
	got := base.Sorted(l[:40]...)
	if !slices.Equal(l, before) {
		t.Error("the argument is changed")
	}
	again := base.Sorted(l[:40]...)
	if !slices.Equal(got, again) {
		t.Error("told otherwise the second time")
	}
	// A list that is in order could be handed out as it is: it must not be.
	want := slices.Clone(again)
	third := base.Sorted(again...)
	clear(again)
	third = append(third, api.Path{})
	if !slices.Equal(third[:len(third)-1], want) {
		t.Error("what is handed out is what was handed in")
	}
	h := hashOf(1, 2, 3)
	base.Letters(h)
	if p := (api.Path{Hash: h, Name: "a"}); base.Less(p, p) || !bytes.Equal(h[:3], []byte{1, 2, 3}) {
		t.Error("a hash is changed")
	}
}
