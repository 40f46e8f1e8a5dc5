package view_test

import (
	"fmt"
	"slices"
	"testing"

	"spence/api"
	"spence/view"
)

// P14.3: a root is kept by each name that is one, of each path whose name is one; they are told in order, and may go.
func TestRoot(t *testing.T) {
	v, p := viewOf(t, quota(100, 0), quota(100, 0)), plainOf(quota(100, 0), quota(100, 0))
	for i, name := range names {
		for j, of := range names {
			to := pathOf(byte(16*i+j), of)
			wantError(t, "Root "+name, v.Root(1, name, to), api.OK)
			wantError(t, "Root after the chapter", p.root(1, name, to), api.OK)
		}
		p.wantAlike(t, "Root "+name, v)
	}
	wantRoots(t, "in order", v, 1, p.rootsOf(1)...)
	if !slices.IsSortedFunc(v.Roots(1), func(a, b view.Root) int { return slices.Compare([]byte(a.Name), []byte(b.Name)) }) {
		t.Errorf("roots are in another order: %v", v.Roots(1))
	}
	for _, name := range names {
		w, we := p.unroot(1, name)
		wantUnroot(t, "Unroot "+name, v, 1, name, w, we)
		wantUnroot(t, "Unroot again", v, 1, name, api.Path{}, api.ErrNone)
		p.wantAlike(t, "Unroot "+name, v)
	}
}

// P14.3: of one root, a is a root; b is one too many; a again, of another path, is that.
func TestRootOfOne(t *testing.T) {
	v := viewOf(t, quota(1, 0))
	a, b := pathOf(1, "x"), pathOf(2, "y")
	wantError(t, "a", v.Root(1, "a", a), api.OK)
	wantError(t, "b", v.Root(1, "b", b), api.ErrQuota)
	wantError(t, "b, of a's path", v.Root(1, "b", a), api.ErrQuota)
	wantRoots(t, "a", v, 1, view.Root{Name: "a", Path: a})
	wantError(t, "a again", v.Root(1, "a", b), api.OK)
	wantError(t, "a of the same path", v.Root(1, "a", b), api.OK)
	wantRoots(t, "a again", v, 1, view.Root{Name: "a", Path: b})
	wantError(t, "b", v.Root(1, "b", b), api.ErrQuota)
	wantUnroot(t, "b", v, 1, "b", api.Path{}, api.ErrNone)
	wantUnroot(t, "a", v, 1, "a", b, api.OK)
	wantRoots(t, "none", v, 1)
	wantError(t, "b", v.Root(1, "b", a), api.OK)
	wantError(t, "a", v.Root(1, "a", a), api.ErrQuota)
	wantRoots(t, "b", v, 1, view.Root{Name: "b", Path: a})
}

// P14.3: no root may be had of a quota of none.
func TestRootOfNone(t *testing.T) {
	v := viewOf(t, quota(0, 400), quota(1, 400))
	wantError(t, "Root", v.Root(1, "a", pathOf(1, "x")), api.ErrQuota)
	wantError(t, "wrong names", v.Root(1, ".", pathOf(1, "x")), api.ErrArg)
	wantUnroot(t, "Unroot", v, 1, "a", api.Path{}, api.ErrNone)
	wantRoots(t, "none", v, 1)
	wantError(t, "the other one's", v.Root(2, "a", pathOf(1, "x")), api.OK)
}

// P14.3: as many roots as a quota has may be had, and one that goes makes room for one.
func TestRootQuota(t *testing.T) {
	for _, many := range []int{1, 2, 3, 99, 100} {
		q := []api.Quota{quota(many, 0), quota(100, 0)}
		v, p := viewOf(t, q...), plainOf(q...)
		for i := range many + 3 {
			name, to := fmt.Sprintf("n%d", 7*i%211), pathOf(byte(i), "x")
			w := api.OK
			if i >= many {
				w = api.ErrQuota
			}
			wantError(t, "Root", v.Root(1, name, to), w)
			wantError(t, "Root after the chapter", p.root(1, name, to), w)
		}
		p.wantAlike(t, "full", v)
		wantError(t, "one that is there", v.Root(1, "n0", pathOf(200, "y")), api.OK)
		wantUnroot(t, "one goes", v, 1, "n0", pathOf(200, "y"), api.OK)
		wantUnroot(t, "it goes again", v, 1, "n0", api.Path{}, api.ErrNone)
		wantError(t, "one comes", v.Root(1, "m", pathOf(201, "z")), api.OK)
		wantError(t, "one more", v.Root(1, "n0", pathOf(201, "z")), api.ErrQuota)
		p.unroot(1, "n0")
		p.root(1, "m", pathOf(201, "z"))
		p.wantAlike(t, "full again", v)
	}
}

// P14.3: Root tells ErrArg of a name that is none, and of a path whose name is none, and keeps what there was.
func TestRootWrong(t *testing.T) {
	v, p := viewOf(t, quota(2, 0)), plainOf(quota(2, 0))
	good := pathOf(1, "x")
	v.Root(1, "a", good)
	p.root(1, "a", good)
	for range 2 {
		for _, wrong := range wrongNames {
			wantError(t, "Root "+wrong, v.Root(1, wrong, good), api.ErrArg)
			wantError(t, "Root of a path "+wrong, v.Root(1, "a", pathOf(2, wrong)), api.ErrArg)
			wantError(t, "Root of another path "+wrong, v.Root(1, "c", pathOf(2, wrong)), api.ErrArg)
			wantError(t, "both", v.Root(1, wrong, pathOf(2, wrong)), api.ErrArg)
			wantError(t, "no user", v.Root(2, wrong, good), api.ErrUser)
			wantUnroot(t, "Unroot "+wrong, v, 1, wrong, api.Path{}, api.ErrNone)
			p.wantAlike(t, "wrong", v)
		}
		// Once more where the quota is used up: what may not be is told ahead of it.
		v.Root(1, "b", good)
		p.root(1, "b", good)
	}
	wantError(t, "one more", v.Root(1, "c", good), api.ErrQuota)
}

// P14.3: a root of another hash, or another name, is another path; a zero hash is one as others.
func TestRootPaths(t *testing.T) {
	v := viewOf(t, quota(5, 0))
	last := api.Path{Name: "x"}
	last.Hash[19] = 1
	for _, to := range []api.Path{{Name: "x"}, last, pathOf(1, "x"), pathOf(1, "y"), pathOf(255, "y")} {
		wantError(t, "Root", v.Root(1, "a", to), api.OK)
		wantRoots(t, "Root", v, 1, view.Root{Name: "a", Path: to})
	}
	for i := range 4 {
		wantError(t, "the same path by other names", v.Root(1, string(rune('b'+i)), last), api.OK)
	}
	wantUnroot(t, "one of them", v, 1, "c", last, api.OK)
	wantRoots(t, "the others", v, 1, view.Root{Name: "a", Path: pathOf(255, "y")}, view.Root{Name: "b", Path: last}, view.Root{Name: "d", Path: last}, view.Root{Name: "e", Path: last})
}

// P14.3, P14.2: names are each user's own; of one that there is not it is ErrUser, none.
func TestRootUsers(t *testing.T) {
	v := viewOf(t, slices.Repeat([]api.Quota{quota(1, 0)}, 8)...)
	for who := 1; who <= 8; who++ {
		wantError(t, "Root", v.Root(who, "a", pathOf(byte(who), "x")), api.OK)
	}
	for who := 1; who <= 8; who += 2 {
		wantUnroot(t, "Unroot", v, who, "a", pathOf(byte(who), "x"), api.OK)
	}
	for who := 1; who <= 8; who++ {
		var w []view.Root
		if who%2 == 0 {
			w = []view.Root{{Name: "a", Path: pathOf(byte(who), "x")}}
		}
		wantRoots(t, "each one's own", v, who, w...)
	}
	for _, who := range noUsers {
		if 1 <= who && who <= 8 {
			continue
		}
		wantError(t, "Root", v.Root(who, "a", pathOf(1, "x")), api.ErrUser)
		wantError(t, "a wrong Root", v.Root(who, "", api.Path{}), api.ErrUser)
		wantUnroot(t, "Unroot", v, who, "a", api.Path{}, api.ErrUser)
		wantUnroot(t, "Unroot of none", v, who, "b", api.Path{}, api.ErrUser)
		wantRoots(t, "Roots", v, who)
	}
}
