package name_test

import (
	"bytes"
	"fmt"
	"math/rand"
	"slices"
	"strings"
	"testing"

	"spence/api"
	"spence/base"
	"spence/name"
)

// P11.2: objects of bytes, and their own bytes.
func TestMake(t *testing.T) {
	dep, lib := pathOf(another, "dep"), pathOf(another, "b")
	for _, c := range []struct {
		name, b string
		of      []api.Path
		hash    string
		refs    []api.Path
		self    bool
		own     string
	}{
		{"hello", "", nil, "mkwbll7pasa6jhh3qnvdaj53f0zhswy8", nil, false, ""},
		{"hello", "some bytes", nil, "gp3zdk8dgw5jjhja7ni65kv7lq530ls3", nil, false, "some bytes"},
		{"hello", "some bytes", []api.Path{dep, lib}, "gp3zdk8dgw5jjhja7ni65kv7lq530ls3", nil, false, "some bytes"},
		{"a", plain, nil, "s712134b5skcfarb7bih7dj46vafqqdi", nil, true, "s712134b5skcfarb7bih7dj46vafqqdi"},
		{"a", plain, []api.Path{pathOf(plain, "a"), dep}, "s712134b5skcfarb7bih7dj46vafqqdi", nil, true, "s712134b5skcfarb7bih7dj46vafqqdi"},
		{"a", "<" + plain + ">" + plain, nil, "vqa0dki4dqgz8k98gk2zxxa954yml8c4", nil, true, "<vqa0dki4dqgz8k98gk2zxxa954yml8c4>vqa0dki4dqgz8k98gk2zxxa954yml8c4"},
		{"lib-1.0", "uses " + another + ", is " + plain, []api.Path{dep}, "87hz1dmybpjh1miwqgmcpaljni6pm0r2", []api.Path{dep}, true, "uses " + another + ", is 87hz1dmybpjh1miwqgmcpaljni6pm0r2"},
		{"x", strings.Repeat("y", 200) + plain + another + another, []api.Path{dep, pathOf(third, "t"), lib, dep}, "3c6ianmmxwrba5b2sr2r9yqqy818rpxg", []api.Path{lib, dep}, true, strings.Repeat("y", 200) + "3c6ianmmxwrba5b2sr2r9yqqy818rpxg" + another + another},
	} {
		o, own := made(t, c.name, []byte(c.b), hashOf(plain), c.of...)
		what := fmt.Sprintf("%s, %q", c.name, c.b)
		wantObject(t, what, o, api.Object{Path: pathOf(c.hash, c.name), Size: len(c.b), Refs: c.refs, Self: c.self})
		wantBytes(t, what, own, c.own)
	}
}

// P11.2: the object is of the name, the bytes, the places of self and what it refers to: each of them another one makes another one.
func TestMakeOthers(t *testing.T) {
	blank := strings.Repeat("\x00", 32)
	seen := map[api.Hash]string{}
	for _, c := range []struct {
		name, b string
		of      []api.Path
	}{
		{"a", plain + another, nil},
		{"b", plain + another, nil},
		{"a", another + plain, nil},
		{"a", plain + another + "x", nil},
		{"ax", plain + another, nil},
		{"a", "x" + plain + another, nil},
		{"a", blank + another, nil},
		{"a", plain + another, []api.Path{pathOf(another, "r")}},
		{"a", plain + another, []api.Path{pathOf(another, "s")}},
		{"a", plain + another, []api.Path{pathOf(another, "r"), pathOf(another, "s")}},
		{"a", plain + another + blank, nil},
		{"a", blank + another + plain, nil},
		{"a", plain + another + plain, nil},
		{"a", "", nil},
	} {
		o, _ := made(t, c.name, []byte(c.b), hashOf(plain), c.of...)
		what := fmt.Sprintf("%s, %q, %v", c.name, c.b, c.of)
		if was, ok := seen[o.Path.Hash]; ok {
			t.Errorf("%s has the hash of %s", what, was)
		}
		seen[o.Path.Hash] = what
	}
}

// P11.2: names that are none.
func TestMakeNames(t *testing.T) {
	for text, w := range map[string]api.Errno{
		"a": api.OK, strings.Repeat("n", 24): api.OK, "a.b-c_d+E9": api.OK,
		"": api.ErrArg, strings.Repeat("n", 25): api.ErrArg, ".a": api.ErrArg, "a/b": api.ErrArg, "a ": api.ErrArg, "é": api.ErrArg, "\xff": api.ErrArg,
	} {
		for at := range 3 {
			names := []string{"n", "r", "s"}
			names[at] = text
			of := []api.Path{pathOf(another, names[1]), pathOf(third, names[2])}
			for _, b := range []string{"", plain, another + third} {
				what := fmt.Sprintf("%v, %q", names, b)
				if w == api.OK {
					made(t, names[0], []byte(b), hashOf(plain), of...)
				} else {
					// Of the paths that do not stand in the bytes, too, and of one that is self's.
					wantRefused(t, what, w, names[0], []byte(b), hashOf(plain), of...)
					wantRefused(t, what, w, names[0], []byte(b), hashOf(another), of...)
					wantRefused(t, what+", too long", w, names[0], make([]byte, 4097), hashOf(plain), of...)
				}
			}
		}
	}
}

// P11.2: at most 4096 bytes.
func TestMakeLong(t *testing.T) {
	for _, fill := range []string{"x", plain} {
		b := []byte(strings.Repeat(fill, 4097))
		o, own := made(t, "n", b[:4096], hashOf(plain))
		if o.Size != 4096 || len(own) != 4096 {
			t.Errorf("%d, %d bytes", o.Size, len(own))
		}
		made(t, "n", b[:4095], hashOf(plain))
		wantRefused(t, "4097", api.ErrLong, "n", b[:4097], hashOf(plain))
		wantRefused(t, "all", api.ErrLong, "n", b, hashOf(plain))
	}
	wantRefused(t, "many", api.ErrLong, "n", make([]byte, 1<<24), hashOf(plain), pathOf(another, "r"))
}

// P11.2: at most 32 are referred to, of those that are not of self's hash, and stand in the bytes, each once.
func TestMakeManyRefs(t *testing.T) {
	l, s := manyPaths(34)
	for _, many := range []int{0, 1, 31, 32} {
		o, _ := made(t, "n", []byte(s[:32*many]), hashOf(plain), append(l, l...)...)
		if !slices.Equal(o.Refs, l[:many]) {
			t.Errorf("%d: %v", many, o.Refs)
		}
	}
	wantRefused(t, "33", api.ErrLong, "n", []byte(s[:32*33]), hashOf(plain), l...)
	wantRefused(t, "34", api.ErrLong, "n", []byte(s), hashOf(plain), l...)
	wantRefused(t, "34, one of them self's", api.ErrLong, "n", []byte(s), l[3].Hash, l...)
	made(t, "n", []byte(s), hashOf(plain), l[:32]...)
	o, _ := made(t, "n", []byte(s[:32*33]), l[3].Hash, l...)
	if !slices.Equal(o.Refs, slices.Concat(l[:3], l[4:33])) || !o.Self {
		t.Errorf("33, one of them self's: %v", o)
	}
	var names []api.Path
	for i := range 33 {
		names = append(names, pathOf(another, "r"+strings.Repeat("x", i%20)+strings.Repeat("y", i/20)))
	}
	wantRefused(t, "33 of one hash", api.ErrLong, "n", []byte(another), hashOf(plain), names...)
	o, _ = made(t, "n", []byte(another), hashOf(plain), names[1:]...)
	if !slices.Equal(o.Refs, base.Sorted(names[1:]...)) {
		t.Errorf("32 of one hash: %v", o.Refs)
	}
	wantRefused(t, "too many bytes, too", api.ErrLong, "n", []byte(strings.Repeat(s, 4)), hashOf(plain), l...)
}

// P11.2: what is referred to is told in order, each once, without what is of self's hash, whatever its name.
func TestMakeRefs(t *testing.T) {
	one, two, three := pathOf(another, "r"), pathOf(third, "r"), pathOf(halves, "r")
	for _, c := range []struct {
		b        string
		of, want []api.Path
	}{
		{another + third + halves, nil, nil},
		{another + third + halves, []api.Path{one}, []api.Path{one}},
		{another + third + halves, []api.Path{one, two, three, pathOf(noughts, "r")}, []api.Path{one, two, three}},
		{halves + third + another, []api.Path{three, two, one, two, three}, []api.Path{one, two, three}},
		{plain + another, []api.Path{one, two, pathOf(plain, "a"), pathOf(plain, "r"), pathOf(plain, "n")}, []api.Path{one}},
		{plain, []api.Path{pathOf(plain, "r")}, nil},
		{another, []api.Path{pathOf(plain, "r")}, nil},
		{another + third[:31], []api.Path{one, two}, []api.Path{one}},
		{another[:31] + third, []api.Path{one, two}, []api.Path{two}},
		{another + another[:8], []api.Path{one, pathOf(another[8:]+another[:8], "r")}, []api.Path{one, pathOf(another[8:]+another[:8], "r")}},
	} {
		o, own := made(t, "n", []byte(c.b), hashOf(plain), c.of...)
		w := base.Sorted(c.want...)
		self := strings.Contains(c.b, plain)
		wantObject(t, c.b, o, api.Object{Path: api.Path{Hash: plainHash("n", []byte(c.b), hashOf(plain), w...), Name: "n"}, Size: len(c.b), Refs: w, Self: self})
		wantBytes(t, c.b, own, strings.ReplaceAll(c.b, plain, base.Letters(o.Path.Hash)))
	}
}

// P11.2: where the letters that are put in break those of a path that stood over their edge, it is no object.
func TestMakeOverEdge(t *testing.T) {
	for k := 1; k < 32; k++ {
		behind := pathOf(plain[k:]+another[:k], "r")
		ahead := pathOf(another[:k]+plain[:32-k], "r")
		wantRefused(t, fmt.Sprint("behind ", k), api.ErrHash, "n", []byte(plain+another[:k]), hashOf(plain), behind)
		wantRefused(t, fmt.Sprint("ahead ", k), api.ErrHash, "n", []byte(another[:k]+plain), hashOf(plain), ahead)
		// Standing elsewhere, too, it is still there; and where it is not asked for, it is no matter.
		o, _ := made(t, "n", []byte(plain+another[:k]+"."+base.Letters(behind.Hash)), hashOf(plain), behind)
		if !slices.Equal(o.Refs, []api.Path{behind}) || !o.Self {
			t.Errorf("%d: %v", k, o)
		}
		made(t, "n", []byte(plain+another[:k]), hashOf(plain), pathOf(another, "r"))
	}
	// Of noughts one behind the other the first 32 are self's, and a path that stands over them is not.
	b := []byte(noughts + "0")
	o, own := made(t, "n", b, api.Hash{})
	wantBytes(t, "noughts", own, base.Letters(o.Path.Hash)+"0")
	wantRefused(t, "a nought behind noughts", api.ErrHash, "n", []byte(noughts+"1"), api.Hash{}, pathOf(noughts[1:]+"1", "r"))
}

// P11.2: of too much and of what breaks: the first error.
func TestMakeErrorsInOrder(t *testing.T) {
	over := pathOf(plain[1:]+"0", "r")
	b := []byte(plain + "0")
	wantRefused(t, "hash", api.ErrHash, "n", b, hashOf(plain), over)
	wantRefused(t, "name, hash", api.ErrArg, "", b, hashOf(plain), over)
	wantRefused(t, "a path's name, hash", api.ErrArg, "n", b, hashOf(plain), over, api.Path{})
	wantRefused(t, "long, hash", api.ErrLong, "n", append(bytes.Clone(b), make([]byte, 4096)...), hashOf(plain), over)
	l, s := manyPaths(33)
	wantRefused(t, "many, hash", api.ErrLong, "n", append(bytes.Clone(b), s...), hashOf(plain), append(l, over)...)
	wantRefused(t, "name, many", api.ErrArg, ".", append(bytes.Clone(b), s...), hashOf(plain), append(l, over)...)
}

// P11.2: bytes in which self does not stand are the object's own, as they are.
func TestMakeWithoutSelf(t *testing.T) {
	for _, b := range []string{"", "x", another, plain[:31], plain[1:], plain[:16] + "." + plain[16:], strings.Repeat("\x00", 32), strings.ToUpper(plain)} {
		o, own := made(t, "n", []byte(b), hashOf(plain))
		wantBytes(t, b, own, b)
		if o.Self {
			t.Errorf("%q: itself", b)
		}
	}
}

// P11.2: bytes and paths by chance, held against the chapter's words.
func TestMakeByChance(t *testing.T) {
	r := rand.New(rand.NewSource(12))
	tells := map[api.Errno]int{}
	many, s := manyPaths(40)
	for range 4000 {
		letters := []string{plain, another, third, halves, noughts}
		b := someBytes(r, 8, letters...)
		of := somePaths(r, 6, b, letters...)
		if r.Intn(10) == 0 {
			b = append(b, s[:32*(28+r.Intn(8))]...)
			of = append(of, many...)
		}
		self := hashOf(letters[r.Intn(5)])
		o, own, e := name.Make("n", b, self, of...)
		w, x, we := plainMake("n", b, self, of...)
		what := fmt.Sprintf("%q, %s, %v", b, base.Letters(self), of)
		wantError(t, what, e, we)
		wantObject(t, what, o, w)
		wantBytes(t, what, own, string(x))
		if t.Failed() {
			t.FailNow()
		}
		tells[e]++
	}
	if tells[api.OK] < 1000 || tells[api.ErrHash] < 50 || tells[api.ErrLong] < 50 {
		t.Error(tells)
	}
}

// R3, R4: what is given is not changed, what is told is new memory, and it is told again.
func TestMakeSharesNothing(t *testing.T) {
	b := []byte(plain + another + third)
	of := []api.Path{pathOf(third, "z"), pathOf(plain, "p"), pathOf(another, "b"), pathOf(halves, "h"), pathOf(another, "a")}
	wasB, wasOf := bytes.Clone(b), slices.Clone(of)
	o, own := made(t, "n", b, hashOf(plain), of...)
	wantBytes(t, "the bytes", b, string(wasB))
	if !slices.Equal(of, wasOf) {
		t.Errorf("the paths: %v", of)
	}
	w, x := o, bytes.Clone(own)
	w.Refs = slices.Clone(o.Refs)
	clear(b)
	clear(of)
	wantObject(t, "told", o, w)
	wantBytes(t, "told", own, string(x))
	clear(own[:cap(own)])
	clear(o.Refs[:cap(o.Refs)])
	o, own = made(t, "n", wasB, hashOf(plain), wasOf...)
	wantObject(t, "told again", o, w)
	wantBytes(t, "told again", own, string(x))
	same := []byte("abc")
	_, own = made(t, "n", same, hashOf(plain))
	own[0] = 'x'
	wantBytes(t, "bytes without self", same, "abc")
}
