package name_test

import (
	"math"
	"slices"
	"strings"
	"testing"

	"spence/api"
	"spence/name"
)

// refers is an object of a path that refers to others.
func refers(of ...api.Path) api.Object {
	return api.Object{Path: pathOf(plain, "a"), Size: 9, Refs: of}
}

// with is an object, changed.
func with(o api.Object, change func(o *api.Object)) api.Object {
	o.Refs = slices.Clone(o.Refs)
	change(&o)
	return o
}

// P11.1: names of an object's path.
func TestRightName(t *testing.T) {
	for text, w := range map[string]bool{
		"a": true, "Z": true, "0": true, "_": true, "+": true, "-": true, "a.b": true, "a..": true, "-a_b+c.D9": true,
		strings.Repeat("n", 24): true, strings.Repeat("n", 25): false,
		"": false, ".": false, ".a": false, "a/b": false, "a b": false, "é": false, "a\x00": false, "a\xff": false, "a\n": false,
	} {
		for _, o := range []api.Object{
			{Path: api.Path{Name: text}},
			{Path: pathOf(plain, text), Size: 40, Refs: []api.Path{pathOf(another, "r")}, Self: true},
		} {
			if got := name.Right(o); got != w {
				t.Errorf("%q: %v", text, got)
			}
		}
	}
	if name.Right(api.Object{}) {
		t.Error("what has no name is right")
	}
}

// P11.1: names of what an object refers to, at each place.
func TestRightNamesOfRefs(t *testing.T) {
	good, _ := manyPaths(32)
	for at := range good {
		for text, w := range map[string]bool{"a": true, strings.Repeat("n", 24): true, strings.Repeat("n", 25): false, "": false, ".a": false, "a/": false, "\xff": false} {
			o := with(refers(good...), func(o *api.Object) { o.Refs[at].Name = text })
			if got := name.Right(o); got != w {
				t.Errorf("%q at %d: %v", text, at, got)
			}
		}
	}
}

// P11.1: sizes.
func TestRightSize(t *testing.T) {
	for size, w := range map[int]bool{0: true, 1: true, 9: true, 4095: true, 4096: true, 4097: false, -1: false, math.MaxInt: false, math.MinInt: false} {
		for _, o := range []api.Object{refers(), refers(pathOf(another, "r"))} {
			for _, o.Self = range []bool{false, true} {
				o.Size = size
				if got := name.Right(o); got != w {
					t.Errorf("size %d: %v", size, got)
				}
			}
		}
	}
}

// P11.1: what is referred to is in order, each once.
func TestRightOrderOfRefs(t *testing.T) {
	// The first three are in the order of their hashes' bytes, which is not that of their letters.
	first, then, last := api.Path{Hash: api.Hash{1}, Name: "b"}, api.Path{Hash: api.Hash{32}, Name: "b"}, api.Path{Hash: api.Hash{32, 1}, Name: "a"}
	low, high := api.Path{Hash: api.Hash{32}, Name: "B"}, api.Path{Hash: api.Hash{32}, Name: "bb"}
	zero := api.Path{Name: "z"}
	for i, c := range []struct {
		of   []api.Path
		want bool
	}{
		{nil, true},
		{[]api.Path{}, true},
		{[]api.Path{first}, true},
		{[]api.Path{zero}, true},
		{[]api.Path{zero, first, low, then, high, last}, true},
		{[]api.Path{first, then}, true},
		{[]api.Path{then, first}, false},
		{[]api.Path{then, last}, true},
		{[]api.Path{last, then}, false},
		{[]api.Path{first, zero}, false},
		{[]api.Path{low, then}, true},
		{[]api.Path{then, low}, false},
		{[]api.Path{then, high}, true},
		{[]api.Path{high, then}, false},
		{[]api.Path{first, first}, false},
		{[]api.Path{first, then, then}, false},
		{[]api.Path{first, then, first}, false},
		{[]api.Path{first, last, then}, false},
		{[]api.Path{zero, zero, first}, false},
	} {
		if got := name.Right(refers(c.of...)); got != c.want {
			t.Errorf("%d: %v: %v", i, c.of, got)
		}
	}
}

// P11.1: at each two places what is referred to is in order, and each once.
func TestRightOrderAtEachPlace(t *testing.T) {
	l, _ := manyPaths(32)
	if !name.Right(refers(l...)) {
		t.Fatal("paths in order are not right")
	}
	for i := range l {
		for j := range i {
			turned := with(refers(l...), func(o *api.Object) { o.Refs[i], o.Refs[j] = o.Refs[j], o.Refs[i] })
			twice := with(refers(l...), func(o *api.Object) { o.Refs[i] = o.Refs[j] })
			if name.Right(turned) || name.Right(twice) {
				t.Errorf("%d, %d: right", i, j)
			}
		}
	}
}

// P11.1: at most 32 are referred to.
func TestRightManyRefs(t *testing.T) {
	l, _ := manyPaths(1000)
	for many, w := range map[int]bool{0: true, 1: true, 31: true, 32: true, 33: false, 34: false, 1000: false} {
		if got := name.Right(refers(l[:many]...)); got != w {
			t.Errorf("%d: %v", many, got)
		}
	}
}

// P11.1: none that is referred to is of the object's own hash, whatever its name.
func TestRightOwnHash(t *testing.T) {
	l, _ := manyPaths(32)
	for at, p := range l {
		for _, text := range []string{"r", "own", "s"} {
			o := refers(l...)
			o.Path = api.Path{Hash: p.Hash, Name: text}
			for _, o.Self = range []bool{false, true} {
				if name.Right(o) {
					t.Errorf("%s at %d: right", text, at)
				}
			}
			o = with(o, func(o *api.Object) { o.Refs = slices.Delete(o.Refs, at, at+1) })
			if !name.Right(o) {
				t.Errorf("without its own one at %d: not right", at)
			}
		}
	}
	zero := api.Object{Path: api.Path{Name: "z"}, Refs: []api.Path{{Name: "a"}}}
	if name.Right(zero) {
		t.Error("the zero hash refers to itself")
	}
}

// R3: what is given is not changed.
func TestRightChangesNothing(t *testing.T) {
	l := []api.Path{pathOf(plain, "b"), pathOf(another, "a"), pathOf(plain, "b"), {}}
	was := slices.Clone(l)
	name.Right(refers(l...))
	name.Check(refers(l...), nil)
	if !slices.Equal(l, was) {
		t.Errorf("%v, not %v", l, was)
	}
}
