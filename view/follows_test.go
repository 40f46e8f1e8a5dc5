package view_test

import (
	"bytes"
	"fmt"
	"math"
	"math/rand"
	"slices"
	"strings"
	"testing"

	"spence/api"
	"spence/view"
)

// wantNoView asks that one that is none tells ErrNil, none, 0.
func wantNoView(t *testing.T, what string, v *view.View) {
	t.Helper()
	for _, who := range []int{1, 2, 0, -1, 9, math.MinInt, math.MaxInt} {
		what := fmt.Sprint(what, ", of ", who)
		if v.Users() != 0 {
			t.Errorf("%s: %d users", what, v.Users())
		}
		q, e := v.Quota(who)
		wantError(t, what+": Quota", e, api.ErrNil)
		if q != (api.Quota{}) {
			t.Errorf("%s: quota %v", what, q)
		}
		wantError(t, what+": Room", v.Room(who, 0, 0), api.ErrNil)
		wantError(t, what+": Room of much", v.Room(who, math.MaxInt, math.MaxInt), api.ErrNil)
		wantError(t, what+": Root", v.Root(who, "a", pathOf(1, "x")), api.ErrNil)
		wantError(t, what+": a wrong Root", v.Root(who, "", api.Path{}), api.ErrNil)
		wantUnroot(t, what+": Unroot", v, who, "a", api.Path{}, api.ErrNil)
		wantUnroot(t, what+": Unroot of none", v, who, "none", api.Path{}, api.ErrNil)
		wantRoots(t, what+": Roots", v, who)
		wantError(t, what+": Note", v.Note(who, "a", nil), api.ErrNil)
		wantError(t, what+": a wrong Note", v.Note(who, "", make([]byte, 3000)), api.ErrNil)
		wantError(t, what+": Unnote", v.Unnote(who, "a"), api.ErrNil)
		wantError(t, what+": Unnote of none", v.Unnote(who, ""), api.ErrNil)
		wantNotes(t, what+": Notes", v, who, "")
	}
}

// P14.5: of no view it is ErrNil, none, 0; likewise of one that New did not tell.
func TestNoView(t *testing.T) {
	wantNoView(t, "nil", nil)
	wantNoView(t, "a zero one", &view.View{})
	wantNoView(t, "a new one", new(view.View))
	v := viewOf(t, quota(3, 3), quota(3, 3))
	v.Root(1, "a", pathOf(1, "x"))
	v.Note(1, "a", []byte{1})
	copied := *v
	wantNoView(t, "a copy", &copied)
	wantRoots(t, "the one that was copied", v, 1, view.Root{Name: "a", Path: pathOf(1, "x")})
	wantNotes(t, "the one that was copied", v, 1, "", row("a", 1))
}

// someName is one of few names, so that calls meet; some are none.
func someName(r *rand.Rand) string {
	return []string{"a", "b", "c", "ab", "A", "aa", "ba", "-", "", ".a"}[r.Intn(10)]
}

// someKey is one of few keys; some are none.
func someKey(r *rand.Rand) string {
	return []string{"a", "b", "ab", "\xff", "\x00", "ba", "aa", "b\x00", "", strings.Repeat("k", 62), strings.Repeat("k", 63)}[r.Intn(11)]
}

// someVal is a value; some are too long.
func someVal(r *rand.Rand) []byte {
	return bytes.Repeat([]byte{byte(r.Intn(256))}, []int{0, 1, 2, 30, 2048, 2049}[r.Intn(6)])
}

// P14.1 to P14.6: rows of all calls tell what the chapter says, call by call, and no user has ever more than its quota.
func TestFollows(t *testing.T) {
	r := rand.New(rand.NewSource(41))
	told := map[string]int{}
	for round := range 150 {
		var quotas []api.Quota
		for range 1 + r.Intn(8) {
			quotas = append(quotas, api.Quota{Bytes: r.Intn(100), Objects: r.Intn(10), Roots: r.Intn(6), Notes: r.Intn(6)})
		}
		v, p := viewOf(t, quotas...), plainOf(quotas...)
		for step := range 120 {
			who := r.Intn(len(quotas)+1) + r.Intn(2)
			what := fmt.Sprintf("round %d, step %d, of %d", round, step, who)
			var e, w api.Errno
			call := r.Intn(8)
			switch call {
			case 0, 1:
				name, to := someName(r), pathOf(byte(r.Intn(9)), "x"+someName(r))
				if r.Intn(10) == 0 {
					to.Name = ""
				}
				e, w = v.Root(who, name, to), p.root(who, name, to)
			case 2:
				name := someName(r)
				var to, wt api.Path
				to, e = v.Unroot(who, name)
				wt, w = p.unroot(who, name)
				if to != wt {
					t.Errorf("%s: Unroot: %v, not %v", what, to, wt)
				}
			case 3, 4, 5:
				key, val := someKey(r), someVal(r)
				e, w = v.Note(who, key, val), p.note(who, key, val)
			case 6:
				key := someKey(r)
				e, w = v.Unnote(who, key), p.unnote(who, key)
			case 7:
				objects, many := r.Intn(14)-2, r.Intn(130)-10
				e, w = v.Room(who, objects, many), p.room(who, objects, many)
			}
			wantError(t, fmt.Sprint(what, ", call ", call), e, w)
			told[fmt.Sprint([]string{"root", "root", "unroot", "note", "note", "note", "unnote", "room"}[call], w)]++
			p.wantAlike(t, what, v, "a", "b", "ba", "k", "\xff")
			for i, q := range quotas {
				if len(v.Roots(i+1)) > q.Roots || len(v.Notes(i+1, "")) > q.Notes {
					t.Fatalf("%s: %d has more than its quota", what, i+1)
				}
			}
			if t.Failed() {
				return
			}
		}
	}
	for _, of := range []struct {
		call   string
		errors []api.Errno
	}{
		{"root", []api.Errno{api.OK, api.ErrUser, api.ErrArg, api.ErrQuota}},
		{"unroot", []api.Errno{api.OK, api.ErrUser, api.ErrNone}},
		{"note", []api.Errno{api.OK, api.ErrUser, api.ErrArg, api.ErrLong, api.ErrQuota}},
		{"unnote", []api.Errno{api.OK, api.ErrUser, api.ErrNone}},
		{"room", []api.Errno{api.OK, api.ErrUser, api.ErrQuota}},
	} {
		for _, e := range of.errors {
			if n := told[fmt.Sprint(of.call, e)]; n < 40 {
				t.Errorf("%s, error %d: %d times", of.call, e, n)
			}
		}
	}
}

// call is a call of one user's.
type call struct {
	kind, who int
	name      string
	val       []byte
}

// do does a call, and tells all that it answers.
func (c call) do(v *view.View) string {
	switch c.kind {
	case 0:
		return fmt.Sprint(v.Root(c.who, c.name, pathOf(byte(len(c.val)), "x")))
	case 1:
		return fmt.Sprint(v.Unroot(c.who, c.name))
	case 2:
		return fmt.Sprint(v.Note(c.who, c.name, c.val))
	case 3:
		return fmt.Sprint(v.Unnote(c.who, c.name))
	}
	return fmt.Sprint(v.Roots(c.who), v.Notes(c.who, c.name))
}

// P14.6: what a user has, and is told, hangs on its own calls alone: it is the same, whatever others call between them.
func TestOwnCallsAlone(t *testing.T) {
	r := rand.New(rand.NewSource(6))
	for range 100 {
		quotas := []api.Quota{quota(2, 3), quota(4, 1), quota(1, 2)}
		all := viewOf(t, quotas...)
		alone := []*view.View{viewOf(t, quotas...), viewOf(t, quotas...), viewOf(t, quotas...)}
		for range 100 {
			c := call{kind: r.Intn(5), who: 1 + r.Intn(3), name: someName(r), val: someVal(r)}
			if among, w := c.do(all), c.do(alone[c.who-1]); among != w {
				t.Fatalf("%v: among others %s, alone %s", c, among, w)
			}
		}
	}
}

// R3: no argument is changed or kept, and what is told is new memory.
func TestMemory(t *testing.T) {
	quotas := []api.Quota{quota(3, 3), quota(2, 2)}
	v := viewOf(t, quotas...)
	quotas[0] = api.Quota{}
	if q, _ := v.Quota(1); q != quota(3, 3) {
		t.Errorf("the quota is %v", q)
	}
	val := []byte{1, 2, 3, 4}
	wantError(t, "Note", v.Note(1, "a", val[:2]), api.OK)
	wantError(t, "Note", v.Note(1, "b", val), api.OK)
	if !slices.Equal(val, []byte{1, 2, 3, 4}) {
		t.Errorf("the value is changed: %v", val)
	}
	clear(val)
	wantNotes(t, "behind a change of what came in", v, 1, "", row("a", 1, 2), row("b", 1, 2, 3, 4))
	l := v.Notes(1, "")
	clear(l[0].Val)
	l[0].Val = append(l[0].Val, 9, 9, 9)
	l[1] = api.Row{}
	wantNotes(t, "behind a change of what went out", v, 1, "", row("a", 1, 2), row("b", 1, 2, 3, 4))
	v.Root(1, "a", pathOf(1, "x"))
	v.Root(1, "b", pathOf(2, "x"))
	roots := v.Roots(1)
	roots[0], roots[1] = view.Root{}, view.Root{}
	wantRoots(t, "behind a change of what went out", v, 1, view.Root{Name: "a", Path: pathOf(1, "x")}, view.Root{Name: "b", Path: pathOf(2, "x")})
}

// R5: views are apart: what one has no other has.
func TestViewsApart(t *testing.T) {
	a, b := viewOf(t, quota(1, 1)), viewOf(t, quota(1, 1))
	wantError(t, "Root", a.Root(1, "a", pathOf(1, "x")), api.OK)
	wantError(t, "Note", a.Note(1, "a", nil), api.OK)
	plainOf(quota(1, 1)).wantAlike(t, "the other one", b)
	wantError(t, "Root", b.Root(1, "b", pathOf(2, "x")), api.OK)
	wantError(t, "Note", b.Note(1, "b", nil), api.OK)
	wantRoots(t, "the first one", a, 1, view.Root{Name: "a", Path: pathOf(1, "x")})
}
