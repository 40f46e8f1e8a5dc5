package refs_test

import (
	"bytes"
	"math/rand"
	"slices"
	"strings"
	"testing"

	"spence/api"
	"spence/base"
)

// The letters of a hash, which stand over themselves from each place on, from each second, from each fifth, from their half, or from their last letter alone.
var (
	noughts = strings.Repeat("0", 32)
	seconds = strings.Repeat("a0", 16)
	fifths  = strings.Repeat("vwxyz", 6) + "vw"
	halves  = strings.Repeat("0123456789abcdfg", 2)
	edges   = "z" + strings.Repeat("1", 30) + "z"
	plain   = "0123456789abcdfghijklmnpqrsvwxyz"
	another = "zyxwvsrqpnmlkjihgfdcba9876543210"
)

// someHashes are the letters of all of them.
func someHashes() []string {
	return []string{noughts, seconds, fifths, halves, edges, plain, another}
}

// hashOf is the hash of letters.
func hashOf(s string) api.Hash {
	h, e := base.Hash(s)
	if e != api.OK {
		panic(s)
	}
	return h
}

// pathOf is a path of letters and a name.
func pathOf(s, name string) api.Path { return api.Path{Hash: hashOf(s), Name: name} }

// plainStands says whether a hash's letters s stand at a place, after the chapter's words.
func plainStands(b []byte, s string, at int) bool {
	for i := range len(s) {
		if at+i >= len(b) || b[at+i] != s[i] {
			return false
		}
	}
	return true
}

// plainPlaces are the places of a hash's letters s, after the chapter's words.
func plainPlaces(b []byte, s string) []int {
	var l []int
	for at := range b {
		over := len(l) > 0 && at < l[len(l)-1]+32
		if !over && plainStands(b, s, at) {
			l = append(l, at)
		}
	}
	return l
}

// plainFound are those of the paths whose hashes stand in b, after the chapter's words.
func plainFound(b []byte, of ...api.Path) []api.Path {
	var l []api.Path
	for _, p := range of {
		if strings.Contains(string(b), base.Letters(p.Hash)) && !slices.Contains(l, p) {
			l = append(l, p)
		}
	}
	slices.SortFunc(l, func(p, q api.Path) int {
		if c := bytes.Compare(p.Hash[:], q.Hash[:]); c != 0 {
			return c
		}
		return strings.Compare(p.Name, q.Name)
	})
	return l
}

// plainWith is b, in which s stands at these places.
func plainWith(b []byte, s string, l []int) []byte {
	x := bytes.Clone(b)
	for _, at := range l {
		for i := range len(s) {
			x[at+i] = s[i]
		}
	}
	return x
}

// someBytes are a row of hashes' letters, pieces of them, and other bytes.
func someBytes(r *rand.Rand, many int, of ...string) []byte {
	var b []byte
	for range r.Intn(many + 1) {
		s := of[r.Intn(len(of))]
		switch r.Intn(6) {
		case 0:
			s = s[r.Intn(len(s)):]
		case 1:
			s = s[:r.Intn(len(s))]
		case 2:
			s = string(rune(r.Intn(128)))
		}
		b = append(b, s...)
	}
	return b
}

// wantPlaces asks that places are these.
func wantPlaces(t *testing.T, what string, l []int, w ...int) {
	t.Helper()
	if !slices.Equal(l, w) {
		t.Errorf("%s: %v, not %v", what, l, w)
	}
}

// wantPaths asks that paths are these.
func wantPaths(t *testing.T, what string, l []api.Path, w ...api.Path) {
	t.Helper()
	if !slices.Equal(l, w) {
		t.Errorf("%s: %v, not %v", what, l, w)
	}
}

// wantBytes asks that bytes are these.
func wantBytes(t *testing.T, what string, b []byte, w string) {
	t.Helper()
	if string(b) != w {
		t.Errorf("%s: %q, not %q", what, b, w)
	}
}
