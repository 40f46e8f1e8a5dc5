package name_test

import (
	"bytes"
	"fmt"
	"math"
	"math/rand"
	"slices"
	"strings"
	"testing"

	"spence/api"
	"spence/base"
	"spence/name"
)

// wantNone asks that bytes are no object's.
func wantNone(t *testing.T, what string, b []byte) {
	t.Helper()
	o, e := name.Get(b)
	wantError(t, what, e, api.ErrShape)
	wantObject(t, what, o, api.Object{})
}

// wantGot asks that bytes are put of an object, and that it is got of them.
func wantGot(t *testing.T, what string, o api.Object, w string) {
	t.Helper()
	b, e := name.Put(o)
	wantError(t, what, e, api.OK)
	wantBytes(t, what, b, w)
	got, e := name.Get([]byte(w))
	wantError(t, what, e, api.OK)
	wantObject(t, what, got, o)
}

// P11.3: objects' bytes, and the objects of bytes.
func TestPutAndGet(t *testing.T) {
	a, long := pathOf(plain, "a"), pathOf(another, strings.Repeat("n", 24))
	wantGot(t, "alone", api.Object{Path: a}, "\x22"+plain+"-a\x00\x00\x00")
	wantGot(t, "itself", api.Object{Path: a, Self: true}, "\x22"+plain+"-a\x00\x00\x01")
	wantGot(t, "a size", api.Object{Path: a, Size: 127}, "\x22"+plain+"-a\x00\x7f\x00")
	wantGot(t, "a size of two bytes", api.Object{Path: a, Size: 300, Self: true}, "\x22"+plain+"-a\x00\xac\x02\x01")
	wantGot(t, "the greatest size", api.Object{Path: a, Size: 4096}, "\x22"+plain+"-a\x00\x80\x20\x00")
	wantGot(t, "a long name", api.Object{Path: long}, "\x39"+another+"-"+long.Name+"\x00\x00\x00")
	wantGot(t, "the zero hash", api.Object{Path: api.Path{Name: "-"}, Size: 5}, "\x22"+noughts+"--\x00\x05\x00")
	wantGot(t, "a ref", api.Object{Path: a, Size: 32, Refs: []api.Path{long}}, "\x22"+plain+"-a\x01\x39"+another+"-"+long.Name+"\x20\x00")
	l := base.Sorted(pathOf(another, "b"), pathOf(third, "c.d"), pathOf(another, "B"))
	w := "\x22" + plain + "-a\x03"
	for _, p := range l {
		w += string(rune(33+len(p.Name))) + plainPath(p)
	}
	wantGot(t, "refs", api.Object{Path: a, Size: 64, Refs: l, Self: true}, w+"\x40\x01")
}

// P11.3: as many refs as may be.
func TestPutAndGetManyRefs(t *testing.T) {
	l, _ := manyPaths(33)
	for many := range 33 {
		o := refers(l[:many]...)
		wantGot(t, fmt.Sprint(many), o, string(plainPut(o)))
	}
	b, e := name.Put(refers(l...))
	wantError(t, "33", e, api.ErrArg)
	wantBytes(t, "33", b, "")
	wantNone(t, "33", plainPut(refers(l...)))
}

// P11.3: an object need not have bytes that are its own.
func TestPutOfNoBytes(t *testing.T) {
	o := with(object("n", []byte("x"), pathOf(another, "r")), func(o *api.Object) { o.Self = true })
	wantError(t, "no bytes are its own", name.Check(o, []byte("x")), api.ErrHash)
	wantGot(t, "put", o, string(plainPut(o)))
}

// P11.3: of an object that is not right there are no bytes, and those that it would have are none.
func TestPutNotRight(t *testing.T) {
	one, two := pathOf(another, "r"), pathOf(third, "r")
	l := base.Sorted(one, two)
	for what, o := range map[string]api.Object{
		"zero":                {},
		"no name":             {Path: api.Path{Hash: hashOf(plain)}},
		"a dot":               {Path: pathOf(plain, ".a")},
		"a blank":             {Path: pathOf(plain, "a b")},
		"a byte that is none": {Path: pathOf(plain, "\xff")},
		"a long name":         {Path: pathOf(plain, strings.Repeat("n", 25))},
		"4097":                {Path: pathOf(plain, "a"), Size: 4097},
		"no name of a ref":    refers(api.Path{Hash: hashOf(another)}),
		"a dot of a ref":      refers(pathOf(another, ".")),
		"a long one":          refers(pathOf(another, strings.Repeat("n", 25))),
		"turned":              refers(l[1], l[0]),
		"twice":               refers(one, one),
		"its own":             refers(pathOf(plain, "r")),
		"its own path":        refers(pathOf(plain, "a")),
	} {
		b, e := name.Put(o)
		wantError(t, what, e, api.ErrArg)
		wantBytes(t, what, b, "")
		wantNone(t, what, plainPut(o))
	}
	for _, size := range []int{-1, math.MinInt, math.MaxInt, 1 << 40} {
		b, e := name.Put(with(refers(one), func(o *api.Object) { o.Size = size }))
		wantError(t, "size", e, api.ErrArg)
		wantBytes(t, "size", b, "")
	}
}

// P11.3: bytes that are no object's.
func TestGetNone(t *testing.T) {
	path, ref := "\x22"+plain+"-a", "\x22"+another+"-r"
	wantError(t, "whole", second(name.Get([]byte(path+"\x01"+ref+"\x20\x01"))), api.OK)
	for what, s := range map[string]string{
		"no bytes":                  "",
		"a nought":                  "\x00",
		"no path":                   "\x00\x00\x00\x00",
		"a path alone":              path,
		"no size":                   path + "\x00",
		"no self":                   path + "\x00\x00",
		"a byte more":               path + "\x00\x00\x00\x00",
		"self 2":                    path + "\x00\x00\x02",
		"self 127":                  path + "\x00\x00\x7f",
		"self of two bytes":         path + "\x00\x00\x81\x00",
		"self 128":                  path + "\x00\x00\x80\x01",
		"a size of a byte too many": path + "\x00\x80\x00\x00",
		"4097":                      path + "\x00\x81\x20\x00",
		"a great size":              path + "\x00\x80\x80\x80\x80\x80\x20\x00",
		"a size that is none":       path + "\x00\xff\xff\xff\xff\xff\xff\x00",
		"a ref that is not there":   path + "\x01\x00\x00",
		"two refs, one there":       path + "\x02" + ref + "\x20\x01",
		"one ref, two there":        path + "\x01" + ref + ref + "\x20\x01",
		"a ref twice":               path + "\x02" + ref + ref + "\x20\x01",
		"many refs":                 path + "\x80\x80\x80\x80\x80\x20" + ref + "\x20\x01",
		"refs of a byte too many":   path + "\x80\x00\x20\x01",
		"its own":                   path + "\x01" + path + "\x20\x01",
		"a text of a byte too many": "\xa2\x00" + path[1:] + "\x00\x00\x00",
		"a text too short":          "\x21" + path[1:] + "\x00\x00\x00",
		"a text too long":           "\x23" + path[1:] + "\x00\x00\x00",
		"a long text":               "\xff\xff\x3f" + path[1:] + "\x00\x00\x00",
		"no minus":                  "\x22" + plain + "+a\x00\x00\x00",
		"no name":                   "\x21" + plain + "-\x00\x00\x00",
		"no letter":                 "\x22e" + plain[1:] + "-a\x00\x00\x00",
		"great letters":             "\x22" + strings.ToUpper(plain) + "-a\x00\x00\x00",
		"a ref without a name":      path + "\x01\x21" + another + "-\x20\x01",
		"a ref of no letters":       path + "\x01\x22" + another[1:] + "u-r\x20\x01",
		"a name of 25":              "\x3a" + plain + "-" + strings.Repeat("n", 25) + "\x00\x00\x00",
	} {
		wantNone(t, what, []byte(s))
	}
	wantNone(t, "nil", nil)
	wantNone(t, "many bytes", make([]byte, 1<<24))
	wantNone(t, "many bytes behind", append([]byte(path+"\x00\x00\x00"), make([]byte, 1<<20)...))
}

// second is the second one of two.
func second(_ api.Object, e api.Errno) api.Errno { return e }

// P11.3: of an object's bytes each begin is none, nor are they with a byte more, or with one turned; what is got otherwise is another right object, whose bytes they are.
func TestGetTurned(t *testing.T) {
	l := base.Sorted(pathOf(another, "b"), pathOf(third, "c.d"), pathOf(another, "B"))
	o := with(refers(l...), func(o *api.Object) { o.Size, o.Self = 300, true })
	b := plainPut(o)
	got := 0
	for at := range b {
		wantNone(t, fmt.Sprint("up to ", at), b[:at])
		wantNone(t, fmt.Sprint("from ", at+1), b[at+1:])
		for x := range 256 {
			if turned := plainWith(b, string([]byte{byte(x)}), []int{at}); byte(x) != b[at] && wantWhole(t, turned) {
				got++
			}
			wantWhole(t, slices.Insert(bytes.Clone(b), at, byte(x)))
		}
		wantWhole(t, slices.Delete(bytes.Clone(b), at, at+1))
	}
	for x := range 256 {
		wantNone(t, fmt.Sprint("behind ", x), append(bytes.Clone(b), byte(x)))
	}
	if got < 1000 {
		t.Errorf("%d got", got)
	}
}

// wantWhole asks that what is got of bytes, if there is an object, is right, another one than none, and has just these bytes; it says whether there is.
func wantWhole(t *testing.T, b []byte) bool {
	t.Helper()
	o, e := name.Get(b)
	if e != api.OK {
		wantError(t, fmt.Sprintf("%q", b), e, api.ErrShape)
		wantObject(t, fmt.Sprintf("%q", b), o, api.Object{})
		return false
	}
	if !name.Right(o) {
		t.Errorf("%q: %v is not right", b, o)
	}
	wantBytes(t, "again", plainPut(o), string(b))
	return true
}

// P11.3, P11.4: what is put is got, of objects by chance.
func TestPutIsGot(t *testing.T) {
	r := rand.New(rand.NewSource(13))
	for range 2000 {
		letters := []string{another, third, halves, noughts}
		o := api.Object{Path: pathOf(plain, strings.Repeat("n", 1+r.Intn(24))), Size: r.Intn(4097), Self: r.Intn(2) == 0}
		for _, p := range base.Sorted(somePaths(r, 32, nil, letters...)...) {
			if p.Hash != o.Path.Hash {
				o.Refs = append(o.Refs, p)
			}
		}
		wantGot(t, fmt.Sprint(o), o, string(plainPut(o)))
		if t.Failed() {
			t.FailNow()
		}
	}
}

// R3, R4: what is given is not changed, what is told is new memory, and it is told again.
func TestPutAndGetShareNothing(t *testing.T) {
	o := refers(base.Sorted(pathOf(another, "r"), pathOf(third, "s"))...)
	was := with(o, func(*api.Object) {})
	b, _ := name.Put(o)
	w := string(b)
	wantObject(t, "put", o, was)
	clear(b[:cap(b)])
	b, _ = name.Put(o)
	wantBytes(t, "put again", b, w)
	wantObject(t, "put again", o, was)
	first, _ := name.Get(b)
	wantBytes(t, "got", b, w)
	then, _ := name.Get(b)
	clear(b)
	wantObject(t, "got", first, was)
	clear(first.Refs[:cap(first.Refs)])
	wantObject(t, "got again", then, was)
}
