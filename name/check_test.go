package name_test

import (
	"bytes"
	"fmt"
	"math/rand"
	"slices"
	"strings"
	"testing"

	"spence/api"
	"spence/base"
	"spence/name"
)

// object is the one of bytes whose hash is that of a name, these bytes and these paths, without itself, whether it is theirs or not.
func object(text string, b []byte, of ...api.Path) api.Object {
	h := plainHash(text, b, api.Hash{1, 2, 3}, of...)
	return api.Object{Path: api.Path{Hash: h, Name: text}, Size: len(b), Refs: of}
}

// P11.1: bytes that are an object's own.
func TestCheck(t *testing.T) {
	wantError(t, "no bytes", name.Check(api.Object{Path: pathOf("mkwbll7pasa6jhh3qnvdaj53f0zhswy8", "hello")}, nil), api.OK)
	o := api.Object{Path: pathOf("gp3zdk8dgw5jjhja7ni65kv7lq530ls3", "hello"), Size: 10}
	wantError(t, "some bytes", name.Check(o, []byte("some bytes")), api.OK)
	own := "s712134b5skcfarb7bih7dj46vafqqdi"
	o = api.Object{Path: pathOf(own, "a"), Size: 32, Self: true}
	wantError(t, "itself", name.Check(o, []byte(own)), api.OK)
	own = "vqa0dki4dqgz8k98gk2zxxa954yml8c4"
	o = api.Object{Path: pathOf(own, "a"), Size: 66, Self: true}
	wantError(t, "itself twice", name.Check(o, []byte("<"+own+">"+own)), api.OK)
	own = "87hz1dmybpjh1miwqgmcpaljni6pm0r2"
	o = api.Object{Path: pathOf(own, "lib-1.0"), Size: 74, Refs: []api.Path{pathOf(another, "dep")}, Self: true}
	wantError(t, "itself and another one", name.Check(o, []byte("uses "+another+", is "+own)), api.OK)
	l, s := manyPaths(32)
	wantError(t, "many", name.Check(object("n", []byte(s), l...), []byte(s)), api.OK)
	long := []byte(strings.Repeat("x", 4096))
	wantError(t, "the longest one", name.Check(object("n", long), long), api.OK)
}

// P11.1: of an object that is not right: ErrArg, whatever the bytes.
func TestCheckNotRight(t *testing.T) {
	b := []byte(another + third)
	l := base.Sorted(pathOf(another, "r"), pathOf(third, "r"))
	good := object("n", b, l...)
	wantError(t, "right", name.Check(good, b), api.OK)
	long := []byte(strings.Repeat("x", 4097))
	many, s := manyPaths(33)
	for _, c := range []struct {
		what string
		o    api.Object
		b    []byte
	}{
		{"zero", api.Object{}, nil},
		{"no name", object("", b, l...), b},
		{"a dot", object(".n", b, l...), b},
		{"no name of a ref", object("n", b, api.Path{Hash: l[0].Hash}, l[1]), b},
		{"out of order", object("n", b, l[1], l[0]), b},
		{"twice", object("n", b, l[0], l[0]), b},
		{"size -1", with(good, func(o *api.Object) { o.Size = -1 }), nil},
		{"too long", object("n", long), long},
		{"too many", object("n", []byte(s), many...), []byte(s)},
		{"its own hash", with(good, func(o *api.Object) { o.Refs[0].Hash = o.Path.Hash }), b},
	} {
		wantError(t, c.what, name.Check(c.o, c.b), api.ErrArg)
		wantError(t, c.what+", other bytes", name.Check(c.o, []byte("other")), api.ErrArg)
		wantError(t, c.what+", no bytes", name.Check(c.o, nil), api.ErrArg)
	}
}

// P11.1: an object that is another one in one thing alone, be it one that is no part of the hash.
func TestCheckAnother(t *testing.T) {
	o, b := made(t, "n", []byte(plain+another+third+halves), hashOf(plain), pathOf(another, "r"), pathOf(third, "r"), pathOf(third, "s"))
	wantError(t, "made", name.Check(o, b), api.OK)
	for what, change := range map[string]func(o *api.Object){
		"a size less":         func(o *api.Object) { o.Size-- },
		"a size more":         func(o *api.Object) { o.Size++ },
		"size 0":              func(o *api.Object) { o.Size = 0 },
		"not itself":          func(o *api.Object) { o.Self = false },
		"another name":        func(o *api.Object) { o.Path.Name = "m" },
		"a longer name":       func(o *api.Object) { o.Path.Name = "nn" },
		"a name of a ref":     func(o *api.Object) { o.Refs[0].Name = "q" },
		"a ref less":          func(o *api.Object) { o.Refs = o.Refs[1:] },
		"no refs":             func(o *api.Object) { o.Refs = nil },
		"a ref more":          func(o *api.Object) { o.Refs = base.Sorted(append(o.Refs, pathOf(halves, "r"))...) },
		"a ref that is none":  func(o *api.Object) { o.Refs = base.Sorted(append(o.Refs, pathOf(noughts, "r"))...) },
		"the hash as it came": func(o *api.Object) { o.Path.Hash = hashOf(plain) },
	} {
		wantError(t, what, name.Check(with(o, change), b), api.ErrHash)
	}
	other := object("n", []byte("abc"))
	wantError(t, "without itself", name.Check(other, []byte("abc")), api.OK)
	wantError(t, "itself that is not there", name.Check(with(other, func(o *api.Object) { o.Self = true }), []byte("abc")), api.ErrHash)
	for bit := range 160 {
		x := with(o, func(o *api.Object) { o.Path.Hash[bit/8] ^= 1 << (bit % 8) })
		wantError(t, fmt.Sprint("bit ", bit), name.Check(x, b), api.ErrHash)
	}
}

// P11.1: an object whose hash counts a path that does not stand in the bytes.
func TestCheckRefThatStandsNowhere(t *testing.T) {
	for _, b := range []string{"", "some", another[:31], another[1:] + another[:31], another[:16] + "." + another[16:], third} {
		of := base.Sorted(pathOf(another, "r"))
		wantError(t, b, name.Check(object("n", []byte(b), of...), []byte(b)), api.ErrHash)
	}
	l, s := manyPaths(32)
	for at := range l {
		b := []byte(s)
		b[32*at+9] = '.'
		wantError(t, fmt.Sprint("missing ", at), name.Check(object("n", b, l...), b), api.ErrHash)
	}
}

// P11.1: paths whose letters stand over one another stand in the bytes, too, and so do those of one hash.
func TestCheckRefsOverOneAnother(t *testing.T) {
	b := []byte(another + another[:8])
	l := base.Sorted(pathOf(another, "r"), pathOf(another, "s"), pathOf(another[8:]+another[:8], "r"), pathOf(another[1:]+another[:1], "r"))
	wantError(t, "over one another", name.Check(object("n", b, l...), b), api.OK)
}

// P11.1: bytes that are others than an object's own, at each place.
func TestCheckOtherBytes(t *testing.T) {
	o, b := made(t, "n", []byte("ab"+plain+"\x00"+another+plain), hashOf(plain), pathOf(another, "r"))
	wantError(t, "made", name.Check(o, b), api.OK)
	for at := range b {
		for bit := range 8 {
			x := bytes.Clone(b)
			x[at] ^= 1 << bit
			wantError(t, fmt.Sprintf("bit %d at %d", bit, at), name.Check(o, x), api.ErrHash)
		}
		less := slices.Delete(bytes.Clone(b), at, at+1)
		wantError(t, fmt.Sprintf("less at %d", at), name.Check(o, less), api.ErrHash)
		wantError(t, fmt.Sprintf("up to %d", at), name.Check(o, b[:at]), api.ErrHash)
		wantError(t, fmt.Sprintf("behind %d", at), name.Check(o, b[at+1:]), api.ErrHash)
	}
	for _, x := range []string{"\x00", "x", "1"} {
		longer := with(o, func(o *api.Object) { o.Size++ })
		for what, y := range map[string][]byte{"behind": append(bytes.Clone(b), x...), "ahead": append([]byte(x), b...)} {
			wantError(t, what, name.Check(o, y), api.ErrHash)
			wantError(t, what+", counted", name.Check(longer, y), api.ErrHash)
		}
	}
	wantError(t, "many bytes", name.Check(o, make([]byte, 1<<24)), api.ErrHash)
}

// P11.1: where an object stands in itself is a part of its hash, and noughts there are not it.
func TestCheckPlaces(t *testing.T) {
	blank := strings.Repeat("\x00", 32)
	first, b := made(t, "n", []byte(plain+blank), hashOf(plain))
	then, c := made(t, "n", []byte(blank+plain), hashOf(plain))
	both, d := made(t, "n", []byte(plain+plain), hashOf(plain))
	none, f := made(t, "n", []byte(blank+blank), hashOf(plain))
	objects, own := []api.Object{first, then, both, none}, [][]byte{b, c, d, f}
	for i, o := range objects {
		for j, x := range own {
			if e := name.Check(o, x); (e == api.OK) != (i == j) {
				t.Errorf("%d of %d: error %d", j, i, e)
			}
			if i != j && o.Path == objects[j].Path {
				t.Errorf("%d and %d have one path", i, j)
			}
		}
	}
}

// P11.1: objects and bytes by chance, held against the chapter's words.
func TestCheckByChance(t *testing.T) {
	r := rand.New(rand.NewSource(11))
	right, own := 0, 0
	for range 4000 {
		letters := []string{plain, another, third, halves, noughts}
		b := someBytes(r, 6, letters...)
		of := base.Sorted(somePaths(r, 4, b, letters...)...)
		o, x, e := name.Make("n", b, hashOf(letters[r.Intn(5)]), of...)
		if e != api.OK || r.Intn(4) == 0 {
			o, x = object("n", b, of...), b
		}
		switch r.Intn(8) {
		case 0:
			o.Self = !o.Self
		case 1:
			o.Size += r.Intn(3) - 1
		case 2:
			o.Refs = of
		case 3:
			x = append(x, 'x')
		}
		w := api.ErrArg
		if plainRight(o) {
			right++
			w = api.ErrHash
			if plainOwn(o, x) {
				own++
				w = api.OK
			}
		}
		wantError(t, fmt.Sprintf("%v, %q", o, x), name.Check(o, x), w)
		if name.Right(o) != (w != api.ErrArg) {
			t.Errorf("%v: right is %v", o, name.Right(o))
		}
		if t.Failed() {
			t.FailNow()
		}
	}
	if right-own < 500 || own < 500 || right == 4000 {
		t.Errorf("%d right, %d own", right, own)
	}
}

// R3: what is given is not changed.
func TestCheckChangesNothing(t *testing.T) {
	o, b := made(t, "n", []byte(plain+another), hashOf(plain), pathOf(another, "r"))
	was, wasRefs := bytes.Clone(b), slices.Clone(o.Refs)
	wantError(t, "made", name.Check(o, b), api.OK)
	wantBytes(t, "the bytes", b, string(was))
	if !slices.Equal(o.Refs, wasRefs) {
		t.Error(o.Refs)
	}
	wantError(t, "again", name.Check(o, b), api.OK)
}
