package cas_test

import (
	"fmt"
	"strings"
	"testing"

	"spence/api"
	"spence/cas"
)

// P12.1: what is added is there, of its runs, held by who added it.
func TestAdd(t *testing.T) {
	var s cas.Shelf
	a := objectOf(pathOf("a", 1), 10)
	b := api.Object{Path: pathOf("b", 2), Size: 4096, Refs: []api.Path{a.Path, pathOf("c", 3)}, Self: true}
	wantError(t, "a", s.Add(a, 1, runsOf(5, 1)...), api.OK)
	wantItem(t, "a", &s, a, runsOf(5, 1), 1)
	wantNothing(t, "b, ahead", &s, b.Path, api.ErrNone)
	wantError(t, "b", s.Add(b, 8, runsOf(9, 3, 0, 2, 9, 3)...), api.OK)
	wantItem(t, "b", &s, b, runsOf(9, 3, 0, 2, 9, 3), 8)
	wantItem(t, "a, as it was", &s, a, runsOf(5, 1), 1)
	wantNothing(t, "what is referred to", &s, pathOf("c", 3), api.ErrNone)
	wantList(t, "all", s.Of(0), []api.Path{a.Path, b.Path})
}

// P12.1: a shelf that is just there has no objects.
func TestJustThere(t *testing.T) {
	for _, s := range []*cas.Shelf{{}, new(cas.Shelf)} {
		(&plain{}).wantAlike(t, "ahead", s, pathOf("a", 1), api.Path{})
		wantError(t, "Hold", s.Hold(pathOf("a", 1), 1), api.ErrNone)
		wantLet(t, "Let", s, pathOf("a", 1), 1, false, api.ErrNone)
		wantError(t, "Move", s.Move(pathOf("a", 1), runsOf(1, 1)...), api.ErrNone)
		(&plain{}).wantAlike(t, "behind", s, pathOf("a", 1), api.Path{})
	}
}

// P12.1: right objects up to each limit are added, of any runs: where bytes lie is not asked.
func TestAddToLimits(t *testing.T) {
	for what, o := range map[string]api.Object{
		"empty":                   objectOf(pathOf("a", 1), 0),
		"full":                    objectOf(pathOf("a", 1), 4096),
		"of a long name":          objectOf(pathOf(strings.Repeat("n", 24), 1), 1),
		"of the zero hash":        objectOf(pathOf("a"), 1),
		"of 32 refs":              objectOf(pathOf("a", 1), 1024, manyPaths(32)...),
		"of refs of no elements":  {Path: pathOf("a", 1), Refs: []api.Path{}},
		"of refs alike in hashes": objectOf(pathOf("a", 1), 1, pathOf("a", 2), pathOf("b", 2)),
		"of itself":               {Path: pathOf("a", 1), Size: 32, Self: true},
		"of itself, short":        {Path: pathOf("a", 1), Self: true},
	} {
		for i, runs := range [][]api.Run{nil, runsOf(0, 1), runsOf(0, 0), runsOf(-5, -1, 1<<62, 1<<62), runsOf(3, 1, 3, 1), {}} {
			s := &cas.Shelf{}
			what := fmt.Sprint(what, ", runs ", i)
			wantError(t, what, s.Add(o, 3, runs...), api.OK)
			wantItem(t, what, s, o, runs, 3)
			wantError(t, what+", again", s.Add(o, 4), api.OK)
			wantItem(t, what+", again", s, o, runs, 3, 4)
		}
	}
}

// wrongObjects are not right in one thing alone.
func wrongObjects() map[string]api.Object {
	good := objectOf(pathOf("a", 9), 10, pathOf("r", 1), pathOf("s", 1), pathOf("a", 2))
	return map[string]api.Object{
		"zero":               {},
		"without a name":     with(good, func(o *api.Object) { o.Path.Name = "" }),
		"a name too long":    with(good, func(o *api.Object) { o.Path.Name = strings.Repeat("n", 25) }),
		"a dot ahead":        with(good, func(o *api.Object) { o.Path.Name = ".a" }),
		"a slash":            with(good, func(o *api.Object) { o.Path.Name = "a/b" }),
		"size -1":            with(good, func(o *api.Object) { o.Size = -1 }),
		"size 4097":          with(good, func(o *api.Object) { o.Size = 4097 }),
		"a ref without name": with(good, func(o *api.Object) { o.Refs[1].Name = "" }),
		"refs out of order":  with(good, func(o *api.Object) { o.Refs[0], o.Refs[1] = o.Refs[1], o.Refs[0] }),
		"a ref twice":        with(good, func(o *api.Object) { o.Refs[1] = o.Refs[0] }),
		"its own hash":       with(good, func(o *api.Object) { o.Path.Hash = o.Refs[2].Hash }),
		"33 refs":            with(good, func(o *api.Object) { o.Refs = manyPaths(33) }),
	}
}

// P12.1: what is not right, or added by none, is not there: ErrArg, also of what is there already.
func TestAddRefused(t *testing.T) {
	a := objectOf(pathOf("a", 9), 10, pathOf("r", 1), pathOf("s", 1), pathOf("a", 2))
	for _, first := range [][]api.Object{nil, {a}} {
		s, p := &cas.Shelf{}, &plain{}
		for _, o := range first {
			wantError(t, "ahead", s.Add(o, 2, runsOf(1, 1)...), p.add(o, 2, runsOf(1, 1)...))
		}
		for what, o := range wrongObjects() {
			for who := 1; who <= 8; who++ {
				wantError(t, what, s.Add(o, who, runsOf(2, 1)...), api.ErrArg)
			}
			for _, who := range noHolders {
				wantError(t, fmt.Sprint(what, ", by ", who), s.Add(o, who, runsOf(2, 1)...), api.ErrArg)
			}
			p.wantAlike(t, what, s, a.Path, o.Path)
		}
		for _, who := range noHolders {
			wantError(t, fmt.Sprint("by ", who), s.Add(a, who, runsOf(2, 1)...), api.ErrArg)
			wantError(t, fmt.Sprint("another one, by ", who), s.Add(objectOf(a.Path, 11), who), api.ErrArg)
			p.wantAlike(t, fmt.Sprint("by ", who), s, a.Path)
		}
	}
}

// P12.1: another object of a path that is there: ErrHash, whoever adds it, and nothing is another one.
func TestAddAnother(t *testing.T) {
	good := objectOf(pathOf("a", 9), 10, pathOf("r", 1), pathOf("s", 1), pathOf("a", 2))
	another := map[string]api.Object{
		"a byte more":        with(good, func(o *api.Object) { o.Size++ }),
		"a byte less":        with(good, func(o *api.Object) { o.Size-- }),
		"none":               with(good, func(o *api.Object) { o.Size = 0 }),
		"itself":             with(good, func(o *api.Object) { o.Self = true }),
		"without refs":       with(good, func(o *api.Object) { o.Refs = nil }),
		"without the first":  with(good, func(o *api.Object) { o.Refs = o.Refs[1:] }),
		"without the last":   with(good, func(o *api.Object) { o.Refs = o.Refs[:2] }),
		"one more":           with(good, func(o *api.Object) { o.Refs = append(o.Refs, pathOf("z", 8)) }),
		"a ref's other name": with(good, func(o *api.Object) { o.Refs[1].Name = "t" }),
		"a ref's other hash": with(good, func(o *api.Object) { o.Refs[2].Hash[19] = 1 }),
		"the first one's":    with(good, func(o *api.Object) { o.Refs[0].Name = "q" }),
	}
	for what, o := range another {
		s, p := &cas.Shelf{}, &plain{}
		wantError(t, what, s.Add(good, 2, runsOf(1, 1)...), p.add(good, 2, runsOf(1, 1)...))
		for _, who := range []int{1, 2, 8} {
			wantError(t, fmt.Sprint(what, ", by ", who), s.Add(o, who, runsOf(2, 1)...), api.ErrHash)
			p.wantAlike(t, fmt.Sprint(what, ", by ", who), s, good.Path)
		}
		// What was there first is what there is, whichever of the two that is.
		s, p = &cas.Shelf{}, &plain{}
		wantError(t, what+" first", s.Add(o, 2, runsOf(1, 1)...), p.add(o, 2, runsOf(1, 1)...))
		wantError(t, what+" first", s.Add(good, 2, runsOf(2, 1)...), api.ErrHash)
		p.wantAlike(t, what+" first", s, good.Path)
	}
}

// P12.1: an object that is there is held by who adds it, too, and lies where it lay.
func TestAddAgain(t *testing.T) {
	var s cas.Shelf
	o := objectOf(pathOf("a", 1), 10, pathOf("r", 2))
	wantError(t, "4", s.Add(o, 4, runsOf(5, 1, 1, 1)...), api.OK)
	wantError(t, "4 again", s.Add(o, 4, runsOf(6, 1)...), api.OK)
	wantItem(t, "4 again", &s, o, runsOf(5, 1, 1, 1), 4)
	wantError(t, "2", s.Add(o, 2, runsOf(7, 1)...), api.OK)
	wantItem(t, "2", &s, o, runsOf(5, 1, 1, 1), 2, 4)
	wantError(t, "8, without runs", s.Add(o, 8), api.OK)
	wantItem(t, "8", &s, o, runsOf(5, 1, 1, 1), 2, 4, 8)
	wantError(t, "1", s.Add(o, 1), api.OK)
	wantItem(t, "1", &s, o, runsOf(5, 1, 1, 1), 1, 2, 4, 8)
	wantList(t, "all", s.Of(0), []api.Path{o.Path})
}

// P12.1: paths of one hash, and of one name, are others.
func TestAddAlike(t *testing.T) {
	s, p := &cas.Shelf{}, &plain{}
	for i, path := range somePaths() {
		o := objectOf(path, i)
		wantError(t, fmt.Sprint(path), s.Add(o, i+1, runsOf(i, 1)...), p.add(o, i+1, runsOf(i, 1)...))
		p.wantAlike(t, fmt.Sprint(path), s, somePaths()...)
	}
	if len(s.Of(0)) != len(somePaths()) {
		t.Error(s.Of(0))
	}
}

// P12.1: who holds what is there holds it, too, or did.
func TestHold(t *testing.T) {
	var s cas.Shelf
	a, b := objectOf(pathOf("a", 1), 10), objectOf(pathOf("b", 1), 20)
	wantError(t, "none", s.Hold(a.Path, 2), api.ErrNone)
	wantNothing(t, "none", &s, a.Path, api.ErrNone)
	wantError(t, "Add", s.Add(a, 3, runsOf(5, 1)...), api.OK)
	wantError(t, "Add", s.Add(b, 3, runsOf(6, 1)...), api.OK)
	wantError(t, "2", s.Hold(a.Path, 2), api.OK)
	wantItem(t, "2", &s, a, runsOf(5, 1), 2, 3)
	wantError(t, "2 again", s.Hold(a.Path, 2), api.OK)
	wantError(t, "3, who added it", s.Hold(a.Path, 3), api.OK)
	wantItem(t, "2 and 3", &s, a, runsOf(5, 1), 2, 3)
	wantItem(t, "b", &s, b, runsOf(6, 1), 3)
	for what, p := range map[string]api.Path{
		"another name": pathOf("c", 1),
		"another hash": pathOf("a", 1, 1),
		"no name":      pathOf("", 1),
		"zero":         {},
	} {
		wantError(t, what, s.Hold(p, 2), api.ErrNone)
		wantNothing(t, what, &s, p, api.ErrNone)
	}
	wantLet(t, "3", &s, b.Path, 3, true, api.OK)
	wantError(t, "what is gone", s.Hold(b.Path, 3), api.ErrNone)
}

// P12.1: each of 8 may hold, none else: ErrArg, be there one of that path or not.
func TestHoldByEach(t *testing.T) {
	for first := 1; first <= 8; first++ {
		s, p := &cas.Shelf{}, &plain{}
		o := objectOf(pathOf("a", 1), 10)
		wantError(t, "Add", s.Add(o, first), p.add(o, first))
		for _, who := range noHolders {
			wantError(t, fmt.Sprint("by ", who), s.Hold(o.Path, who), api.ErrArg)
			wantError(t, fmt.Sprint("of none, by ", who), s.Hold(api.Path{}, who), api.ErrArg)
		}
		p.wantAlike(t, "none", s, o.Path)
		for who := 8; who >= 1; who-- {
			wantError(t, fmt.Sprint("by ", who), s.Hold(o.Path, who), p.hold(o.Path, who))
			p.wantAlike(t, fmt.Sprint("by ", who), s, o.Path)
		}
		wantItem(t, "all", s, o, nil, 1, 2, 3, 4, 5, 6, 7, 8)
	}
}
