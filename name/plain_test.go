package name_test

import (
	"bytes"
	"crypto/sha256"
	"math/rand"
	"slices"
	"strings"
	"testing"

	"spence/api"
	"spence/base"
	"spence/name"
)

// Letters of hashes: those that stand over themselves from each place on, from their half, and two that stand over nothing.
var (
	noughts = strings.Repeat("0", 32)
	halves  = strings.Repeat("0123456789abcdfg", 2)
	plain   = "0123456789abcdfghijklmnpqrsvwxyz"
	another = "zyxwvsrqpnmlkjihgfdcba9876543210"
	third   = strings.Repeat("q1", 15) + "zz"
)

// hashOf is the hash of letters.
func hashOf(s string) api.Hash {
	h, e := base.Hash(s)
	if e != api.OK {
		panic(s)
	}
	return h
}

// pathOf is a path of letters and a name.
func pathOf(s, name string) api.Path { return api.Path{Hash: hashOf(s), Name: name} }

// manyPaths are as many paths of hashes of their own, in order, and the letters of all.
func manyPaths(many int) ([]api.Path, string) {
	var l []api.Path
	s := ""
	for i := range many {
		p := api.Path{Hash: api.Hash{0, byte(i / 2), byte(i), 7}, Name: "r"}
		l = append(l, p)
		s += base.Letters(p.Hash)
	}
	return l, s
}

// plainNum are a number's bytes.
func plainNum(n int) []byte {
	if n < 128 {
		return []byte{byte(n)}
	}
	return append([]byte{byte(n%128 + 128)}, plainNum(n/128)...)
}

// plainText are a text's bytes.
func plainText(s string) []byte { return append(plainNum(len(s)), s...) }

// plainPath is a path's text.
func plainPath(p api.Path) string { return base.Letters(p.Hash) + "-" + p.Name }

// plainPlaces are the places of a hash's letters s.
func plainPlaces(b []byte, s string) []int {
	var l []int
	for at := 0; at+32 <= len(b); at++ {
		if string(b[at:at+32]) == s {
			l = append(l, at)
			at += 31
		}
	}
	return l
}

// plainWith is b, in which s stands at these places.
func plainWith(b []byte, s string, l []int) []byte {
	x := bytes.Clone(b)
	for _, at := range l {
		copy(x[at:], s)
	}
	return x
}

// plainHash is an object's hash, after the chapter's words.
func plainHash(name string, b []byte, self api.Hash, of ...api.Path) api.Hash {
	l := plainPlaces(b, base.Letters(self))
	var places []byte
	for _, at := range l {
		places = append(places, plainNum(at)...)
	}
	parts := []string{"object", name, string(plainWith(b, strings.Repeat("\x00", 32), l)), string(places)}
	for _, p := range of {
		parts = append(parts, plainPath(p))
	}
	var all []byte
	for _, s := range parts {
		all = append(all, plainText(s)...)
	}
	var h api.Hash
	for i, x := range sha256.Sum256(all) {
		h[i%20] ^= x
	}
	return h
}

// plainOrder is the order of paths.
func plainOrder(p, q api.Path) int {
	if c := bytes.Compare(p.Hash[:], q.Hash[:]); c != 0 {
		return c
	}
	return strings.Compare(p.Name, q.Name)
}

// plainRight says whether an object is right, after the chapter's words, where all names in it are names.
func plainRight(o api.Object) bool {
	for i, p := range o.Refs {
		if p.Hash == o.Path.Hash || slices.Contains(o.Refs[:i], p) {
			return false
		}
	}
	return slices.IsSortedFunc(o.Refs, plainOrder) && len(o.Refs) <= 32 && 0 <= o.Size && o.Size <= 4096
}

// plainOwn says whether bytes are a right object's own, after the chapter's words.
func plainOwn(o api.Object, b []byte) bool {
	for _, p := range o.Refs {
		if !strings.Contains(string(b), base.Letters(p.Hash)) {
			return false
		}
	}
	self := strings.Contains(string(b), base.Letters(o.Path.Hash))
	return len(b) == o.Size && self == o.Self && plainHash(o.Path.Name, b, o.Path.Hash, o.Refs...) == o.Path.Hash
}

// plainMake is an object of bytes, and its own bytes, after the chapter's words, where all names are names, and there are not too many bytes.
func plainMake(name string, b []byte, self api.Hash, of ...api.Path) (api.Object, []byte, api.Errno) {
	var l []api.Path
	for _, p := range of {
		if p.Hash != self && strings.Contains(string(b), base.Letters(p.Hash)) && !slices.Contains(l, p) {
			l = append(l, p)
		}
	}
	if len(l) > 32 {
		return api.Object{}, nil, api.ErrLong
	}
	slices.SortFunc(l, plainOrder)
	h := plainHash(name, b, self, l...)
	places := plainPlaces(b, base.Letters(self))
	o := api.Object{Path: api.Path{Hash: h, Name: name}, Size: len(b), Refs: l, Self: len(places) > 0}
	own := plainWith(b, base.Letters(h), places)
	if !plainOwn(o, own) {
		return api.Object{}, nil, api.ErrHash
	}
	return o, own, api.OK
}

// plainPut are an object's bytes, after the chapter's words.
func plainPut(o api.Object) []byte {
	b := append(plainText(plainPath(o.Path)), plainNum(len(o.Refs))...)
	for _, p := range o.Refs {
		b = append(b, plainText(plainPath(p))...)
	}
	b = append(b, plainNum(o.Size)...)
	if o.Self {
		return append(b, 1)
	}
	return append(b, 0)
}

// someBytes are a row of hashes' letters, pieces of them, and other bytes.
func someBytes(r *rand.Rand, many int, of ...string) []byte {
	var b []byte
	for range r.Intn(many + 1) {
		s := of[r.Intn(len(of))]
		switch r.Intn(8) {
		case 0:
			s = s[r.Intn(len(s)):]
		case 1:
			s = s[:r.Intn(len(s))]
		case 2:
			s = strings.Repeat("\x00", r.Intn(40))
		case 3:
			s = string(rune(r.Intn(128)))
		}
		b = append(b, s...)
	}
	return b
}

// somePaths are paths of hashes of these letters, and of some that stand in bytes, perhaps over them.
func somePaths(r *rand.Rand, many int, b []byte, of ...string) []api.Path {
	var l []api.Path
	for range r.Intn(many + 1) {
		name := string(rune('a' + r.Intn(3)))
		if len(b) > 32 && r.Intn(4) == 0 {
			at := r.Intn(len(b) - 32)
			if h, e := base.Hash(string(b[at : at+32])); e == api.OK {
				l = append(l, api.Path{Hash: h, Name: name})
			}
		} else {
			l = append(l, pathOf(of[r.Intn(len(of))], name))
		}
	}
	return l
}

// sameObject says whether objects are one.
func sameObject(a, b api.Object) bool {
	return a.Path == b.Path && a.Size == b.Size && a.Self == b.Self && slices.Equal(a.Refs, b.Refs)
}

// wantObject asks that an object is that.
func wantObject(t *testing.T, what string, o, w api.Object) {
	t.Helper()
	if !sameObject(o, w) {
		t.Errorf("%s: %v, not %v", what, o, w)
	}
}

// wantError asks that an error is that.
func wantError(t *testing.T, what string, e, w api.Errno) {
	t.Helper()
	if e != w {
		t.Errorf("%s: error %d, not %d", what, e, w)
	}
}

// wantBytes asks that bytes are these.
func wantBytes(t *testing.T, what string, b []byte, w string) {
	t.Helper()
	if string(b) != w {
		t.Errorf("%s: %q, not %q", what, b, w)
	}
}

// made is what Make tells, which must be OK.
func made(t *testing.T, text string, b []byte, self api.Hash, of ...api.Path) (api.Object, []byte) {
	t.Helper()
	o, own, e := name.Make(text, b, self, of...)
	if e != api.OK {
		t.Fatalf("Make of %s, %q: error %d", text, b, e)
	}
	return o, own
}

// wantRefused asks that Make tells an error, and nothing beside it.
func wantRefused(t *testing.T, what string, w api.Errno, text string, b []byte, self api.Hash, of ...api.Path) {
	t.Helper()
	o, own, e := name.Make(text, b, self, of...)
	wantError(t, what, e, w)
	wantObject(t, what, o, api.Object{})
	wantBytes(t, what, own, "")
}
