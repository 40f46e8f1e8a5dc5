package view_test

import (
	"bytes"
	"fmt"
	"math"
	"slices"
	"strings"
	"testing"

	"spence/api"
	"spence/view"
)

// noUsers are numbers that are none of few users', among them such as would be one if their bits were cut.
var noUsers = []int{0, -1, -2, -8, 9, 10, 16, 255, 257, 1<<16 + 1, 1<<32 + 1, -1<<32 + 1, math.MinInt, math.MinInt + 1, math.MaxInt}

// names are right ones, wrongNames are none.
var (
	names      = []string{"a", "Z", "9", "_", "+", "-", "a.b", "-a", "b..", "A.b_c+d-e", strings.Repeat("x", 24)}
	wrongNames = []string{"", ".", ".a", "a b", "a/b", "a\x00", "ä", "a\n", "a:", "a@", "a[", "a`", "a{", "a,", strings.Repeat("x", 25), strings.Repeat("x", 1000)}
)

// quota is one of so many roots and notes.
func quota(roots, notes int) api.Quota {
	return api.Quota{Bytes: 1000, Objects: 10, Roots: roots, Notes: notes}
}

// pathOf is a path of a hash whose first byte that is.
func pathOf(first byte, name string) api.Path {
	return api.Path{Hash: api.Hash{first}, Name: name}
}

// viewOf is a view of users of these quotas.
func viewOf(t *testing.T, quotas ...api.Quota) *view.View {
	t.Helper()
	v, e := view.New(quotas...)
	if e != api.OK || v == nil {
		t.Fatalf("New of %v: %v, error %d", quotas, v, e)
	}
	return v
}

// wantError asks that an error is that.
func wantError(t *testing.T, what string, e, w api.Errno) {
	t.Helper()
	if e != w {
		t.Errorf("%s: error %d, not %d", what, e, w)
	}
}

// wantUnroot asks that an Unroot tells that.
func wantUnroot(t *testing.T, what string, v *view.View, who int, name string, w api.Path, we api.Errno) {
	t.Helper()
	if p, e := v.Unroot(who, name); p != w || e != we {
		t.Errorf("%s: %v, error %d, not %v, %d", what, p, e, w, we)
	}
}

// wantRoots asks that a user's roots are these.
func wantRoots(t *testing.T, what string, v *view.View, who int, w ...view.Root) {
	t.Helper()
	if l := v.Roots(who); !slices.Equal(l, w) {
		t.Errorf("%s: %d has the roots %v, not %v", what, who, l, w)
	}
}

// sameRows says whether rows are these.
func sameRows(l, w []api.Row) bool {
	return slices.EqualFunc(l, w, func(a, b api.Row) bool { return a.Key == b.Key && bytes.Equal(a.Val, b.Val) })
}

// wantNotes asks that a user's notes are these.
func wantNotes(t *testing.T, what string, v *view.View, who int, prefix string, w ...api.Row) {
	t.Helper()
	if l := v.Notes(who, prefix); !sameRows(l, w) {
		t.Errorf("%s: %d has the notes %v, not %v", what, who, l, w)
	}
}

// row is a note.
func row(key string, val ...byte) api.Row {
	return api.Row{Key: key, Val: val}
}

// plainUser is what one user has, in no order.
type plainUser struct {
	quota api.Quota
	roots []view.Root
	notes []api.Row
}

// plain is a view after the chapter's words, one by one.
type plain struct {
	users []*plainUser
}

// plainOf is users of quotas, without roots and notes.
func plainOf(quotas ...api.Quota) *plain {
	p := &plain{}
	for _, q := range quotas {
		p.users = append(p.users, &plainUser{quota: q})
	}
	return p
}

// user is nil of one that there is not.
func (p *plain) user(who int) *plainUser {
	for i, u := range p.users {
		if i+1 == who {
			return u
		}
	}
	return nil
}

// plainName says whether s is a name.
func plainName(s string) bool {
	const of = "abcdefghijklmnopqrstuvwxyzABCDEFGHIJKLMNOPQRSTUVWXYZ0123456789._+-"
	for i := range len(s) {
		if strings.IndexByte(of, s[i]) < 0 {
			return false
		}
	}
	return len(s) > 0 && len(s) <= 24 && s[0] != '.'
}

func (p *plain) root(who int, name string, to api.Path) api.Errno {
	u := p.user(who)
	if u == nil {
		return api.ErrUser
	}
	if !plainName(name) || !plainName(to.Name) {
		return api.ErrArg
	}
	for i := range u.roots {
		if u.roots[i].Name == name {
			u.roots[i].Path = to
			return api.OK
		}
	}
	if len(u.roots) >= u.quota.Roots {
		return api.ErrQuota
	}
	u.roots = append(u.roots, view.Root{Name: name, Path: to})
	return api.OK
}

func (p *plain) unroot(who int, name string) (api.Path, api.Errno) {
	u := p.user(who)
	if u == nil {
		return api.Path{}, api.ErrUser
	}
	for i, r := range u.roots {
		if r.Name == name {
			u.roots = slices.Delete(u.roots, i, i+1)
			return r.Path, api.OK
		}
	}
	return api.Path{}, api.ErrNone
}

func (p *plain) rootsOf(who int) []view.Root {
	u := p.user(who)
	if u == nil {
		return nil
	}
	l := slices.Clone(u.roots)
	slices.SortFunc(l, func(a, b view.Root) int { return strings.Compare(a.Name, b.Name) })
	return l
}

func (p *plain) note(who int, key string, val []byte) api.Errno {
	u := p.user(who)
	switch {
	case u == nil:
		return api.ErrUser
	case len(key) < 1 || len(key) > 62:
		return api.ErrArg
	case len(val) > 2048:
		return api.ErrLong
	}
	for i := range u.notes {
		if u.notes[i].Key == key {
			u.notes[i].Val = bytes.Clone(val)
			return api.OK
		}
	}
	if len(u.notes) >= u.quota.Notes {
		return api.ErrQuota
	}
	u.notes = append(u.notes, api.Row{Key: key, Val: bytes.Clone(val)})
	return api.OK
}

func (p *plain) unnote(who int, key string) api.Errno {
	u := p.user(who)
	if u == nil {
		return api.ErrUser
	}
	i := slices.IndexFunc(u.notes, func(r api.Row) bool { return r.Key == key })
	if i < 0 {
		return api.ErrNone
	}
	u.notes = slices.Delete(u.notes, i, i+1)
	return api.OK
}

func (p *plain) notesOf(who int, prefix string) []api.Row {
	u := p.user(who)
	if u == nil {
		return nil
	}
	var l []api.Row
	for _, r := range u.notes {
		if len(r.Key) >= len(prefix) && r.Key[:len(prefix)] == prefix {
			l = append(l, r)
		}
	}
	slices.SortFunc(l, func(a, b api.Row) int { return strings.Compare(a.Key, b.Key) })
	return l
}

func (p *plain) room(who, objects, many int) api.Errno {
	u := p.user(who)
	switch {
	case u == nil:
		return api.ErrUser
	case objects > u.quota.Objects || many > u.quota.Bytes:
		return api.ErrQuota
	}
	return api.OK
}

// wantAlike asks that a view tells what the plain one tells, of all users and some that there are not.
func (p *plain) wantAlike(t *testing.T, what string, v *view.View, prefixes ...string) {
	t.Helper()
	if v.Users() != len(p.users) {
		t.Errorf("%s: %d users, not %d", what, v.Users(), len(p.users))
	}
	for who := -1; who <= 10; who++ {
		what := fmt.Sprint(what, ", of ", who)
		q, e := v.Quota(who)
		switch u := p.user(who); {
		case u == nil && (q != api.Quota{} || e != api.ErrUser), u != nil && (q != u.quota || e != api.OK):
			t.Errorf("%s: quota %v, error %d", what, q, e)
		}
		wantRoots(t, what, v, who, p.rootsOf(who)...)
		wantNotes(t, what, v, who, "", p.notesOf(who, "")...)
		for _, prefix := range prefixes {
			wantNotes(t, what+", "+prefix, v, who, prefix, p.notesOf(who, prefix)...)
		}
	}
}
