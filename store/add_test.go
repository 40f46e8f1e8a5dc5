package store_test

import (
	"bytes"
	"fmt"
	"math"
	"slices"
	"strings"
	"testing"

	"spence/api"
	"spence/base"
	"spence/pack"
	"spence/store"
)

// noUsers are numbers that are none of two users', among them such as would be one if their bits were cut.
var noUsers = []int{0, -1, -2, 3, 8, 9, 16, 255, 257, 258, 1<<16 + 1, 1<<32 + 1, -1<<32 + 1, math.MinInt, math.MinInt + 1, math.MaxInt}

// P16.2: an object that is added is there, of its own bytes, held by the user; its path is told.
func TestAdd(t *testing.T) {
	b := formatted(t, api.Quota{Bytes: 20000, Objects: 20}, some)
	for _, many := range []int{2, 3, 63, 64, 65, 127, 128, 129, 2000, 4095, 4096} {
		d := adds(1, "n", archive(many))
		path, own := ownOf(t, d)
		wantPaths(t, "told", b.must(t, fmt.Sprint(many, " bytes"), d), []api.Path{path})
		got, e := b.x.Read(path)
		want(t, "Read", e, api.OK)
		if !bytes.Equal(got, own) || len(own) != many {
			t.Errorf("%d bytes: %d", many, got)
		}
		if x := b.p.at(path); x.Size != many || !slices.Equal(x.holders, []int{1}) {
			t.Errorf("%d bytes: %v", many, x)
		}
	}
	b.again(t, "all")
}

// P16.2: what stands for an object's own hash is rewritten, and what it refers to is kept.
func TestAddRefs(t *testing.T) {
	b := formatted(t, api.Quota{Bytes: 3000, Objects: 9})
	p := b.must(t, "a", adds(1, "a", file("x")))[0]
	q := b.must(t, "b", adds(1, "b", file("y")))[0]
	d := adds(1, "c", refers(q, dummy2(), p, p), p, q, p)
	path := b.must(t, "c", d)[0]
	o, e := b.x.Find(path)
	want(t, "Find", e, api.OK)
	if !o.Self || !slices.Equal(o.Refs, plainSorted([]api.Path{p, q})) {
		t.Errorf("it is %v", o)
	}
	got, _ := b.x.Read(path)
	if !bytes.Contains(got, []byte(base.Letters(path.Hash))) || bytes.Contains(got, []byte(base.Letters(dummy))) {
		t.Errorf("its bytes are %q", got)
	}
	// Of paths it refers to those alone that stand in it, and are asked for.
	other := b.must(t, "d", adds(1, "d", refers(q, p), q, path))[0]
	if o, _ := b.x.Find(other); o.Self || !slices.Equal(o.Refs, []api.Path{q}) {
		t.Errorf("it is %v", o)
	}
	alone := b.must(t, "e", adds(1, "e", refers(q, p)))[0]
	if o, _ := b.x.Find(alone); len(o.Refs) != 0 {
		t.Errorf("it is %v", o)
	}
	b.again(t, "all")
}

// P16.2: ErrShape, unless the bytes are an archive, however long they are.
func TestAddNoArchive(t *testing.T) {
	b := formatted(t, some)
	for _, l := range [][]byte{nil, {}, {0}, {1}, {1, 1}, {1, 0, 0}, {5, 0}, {3, 0}, {4, 1}, []byte("file"), append(file("x"), 0), file("xy")[:3], make([]byte, 4097), append(long(1, 4096), 0), make([]byte, 1<<20)} {
		b.refused(t, fmt.Sprint(len(l), " bytes"), api.ErrShape, adds(1, "a", l))
		b.refused(t, "and a name that is none", api.ErrShape, adds(1, "", l))
		b.refused(t, "and a ref", api.ErrShape, adds(1, "a", l, api.Path{Name: "a"}))
	}
	b.must(t, "an archive", adds(1, "a", []byte{1, 0}))
}

// P16.2: name.Make's errors.
func TestAddMake(t *testing.T) {
	b := formatted(t, api.Quota{Bytes: 100000, Objects: 50})
	for _, text := range []string{"", ".a", "a/b", "a b", strings.Repeat("n", 25), "é"} {
		b.refused(t, "a name that is none: "+text, api.ErrArg, adds(1, text, file("x")))
		b.refused(t, "a path's name that is none: "+text, api.ErrArg, adds(1, "a", file("x"), api.Path{Name: text}))
	}
	b.must(t, "a name of 24", adds(1, strings.Repeat("n", 24), file("x")))
	var l []api.Path
	for i := range 33 {
		l = append(l, b.must(t, "one", adds(1, "a", file(fmt.Sprint("f", i))))[0])
	}
	all := b.p.of(0)
	b.refused(t, "33 refs", api.ErrLong, adds(1, "m", refersTo(l...), l...))
	b.must(t, "32 refs", adds(1, "m", refersTo(l[:32]...), l[:32]...))
	b.must(t, "33 that stand there, 32 that are asked for", adds(1, "m", refersTo(l...), l[1:]...))
	if len(b.p.of(0)) != len(all)+2 {
		t.Error("they are not two more")
	}
	// The letters that are put in for its own break those that stand over their edge: what is made does not check.
	ones := strings.Repeat("1", 32)
	d := adds(1, "e", file(strings.Repeat("0", 31)+ones+"x"), api.Path{Hash: hashOf(t, ones), Name: "z"})
	d.Self = hashOf(t, strings.Repeat("0", 31)+"1")
	b.refused(t, "what is broken", api.ErrHash, d)
}

// P16.2: what must be an archive is what is given, though its own bytes be none: here its own letters stand over a length.
func TestAddOverLength(t *testing.T) {
	b := formatted(t, some)
	d := adds(1, "a", file(strings.Repeat("1", 48)))
	d.Self = hashOf(t, "0"+strings.Repeat("1", 31))
	path, own := ownOf(t, d)
	if _, e := pack.Open(own); e == api.OK {
		t.Fatal("its own bytes are an archive")
	}
	wantPaths(t, "told", b.must(t, "over a length", d), []api.Path{path})
}

// P16.2: ErrRefs, unless the user holds all that it refers to, whoever else does.
func TestAddErrRefs(t *testing.T) {
	b := formatted(t, some, some)
	p := b.must(t, "a", adds(1, "a", file("x")))[0]
	q := b.must(t, "b", adds(2, "b", file("y")))[0]
	gone := api.Path{Hash: api.Hash{1}, Name: "gone"}
	b.refused(t, "of another one", api.ErrRefs, adds(1, "c", refers(q), q))
	b.refused(t, "of both", api.ErrRefs, adds(1, "c", refers(p, q), p, q))
	b.refused(t, "of none", api.ErrRefs, adds(1, "c", refers(gone), gone))
	b.refused(t, "of another name", api.ErrRefs, adds(1, "c", refers(p), api.Path{Hash: p.Hash, Name: "b"}))
	b.refused(t, "ahead of a quota", api.ErrRefs, adds(1, "c", append([]byte{4, 2, 1, 'a'}, append(archive(1900), append([]byte{1, 'b'}, refers(q)...)...)...), q))
	b.must(t, "own", adds(1, "c", refers(p), p))
	b.must(t, "adopted", adopts(1, q), adds(1, "c", refers(p, q), p, q))
	b.must(t, "what stands there, but is not asked for", adds(2, "c", refers(p)))
	b.must(t, "what is asked for, but does not stand there", adds(2, "d", file("z"), p, gone))
}

// P16.2: what others hold is held then, too: it lies where it lay.
func TestAddOfAnother(t *testing.T) {
	b := formatted(t, some, some)
	d := adds(1, "a", long(1, 150))
	p := b.must(t, "1", d)[0]
	was := slices.Clone(b.p.at(p).runs)
	d.Who = 2
	deeds := b.d.Stat().Deeds
	b.must(t, "2", d)
	if !slices.Equal(b.p.at(p).runs, was) || !slices.Equal(b.x.Of(2), []api.Path{p}) {
		t.Error("it lies elsewhere")
	}
	// One record, that has room: the bytes of the record, and a head.
	if b.d.Stat().Deeds-deeds > 7 {
		t.Error("its bytes are written again")
	}
	// Of another name, or other bytes, it is another one.
	b.must(t, "another name", adds(2, "b", long(1, 150)))
	b.must(t, "other bytes", adds(2, "a", long(2, 150)))
	b.again(t, "all")
}

// P16.2: what the user holds already is told, and nothing is done, though there be no room for more.
func TestAddAgain(t *testing.T) {
	b := formatted(t, api.Quota{Bytes: 100, Objects: 2}, some)
	d, f := adds(1, "a", file(string(filled(1, 58)))), adds(1, "b", file(string(filled(1, 38))))
	p, q := b.must(t, "a", d)[0], b.must(t, "b", f)[0]
	deeds, kept := b.d.Stat().Deeds, b.d.Kept()
	for range 3 {
		wantPaths(t, "again", b.must(t, "again", d, f, d), []api.Path{p, q, p})
	}
	if b.d.Stat().Deeds != deeds || !bytes.Equal(b.d.Kept(), kept) {
		t.Error("something is done")
	}
}

// P16.2: ErrQuota, unless the user may have one object more, and its bytes; of what is there already, too.
func TestAddQuota(t *testing.T) {
	b := formatted(t, api.Quota{Bytes: 100, Objects: 2}, api.Quota{Bytes: 1000, Objects: 1}, none, some)
	small, great := file(string(filled(1, 48))), file(string(filled(2, 49)))
	other := b.must(t, "another one's", adds(4, "a", great))[0]
	b.must(t, "50 bytes", adds(1, "a", small))
	b.refused(t, "51 bytes", api.ErrQuota, adds(1, "a", great))
	b.must(t, "50 bytes", adds(1, "b", small))
	b.refused(t, "an object more", api.ErrQuota, adds(1, "c", []byte{1, 0}))
	b.must(t, "one object", adds(2, "a", great))
	b.refused(t, "an object more", api.ErrQuota, adds(2, "a", small))
	b.refused(t, "nothing may be had", api.ErrQuota, adds(3, "a", []byte{1, 0}))
	b.refused(t, "nothing may be had, though it is there", api.ErrQuota, adds(3, "a", great))
	b.refused(t, "what is there, with other bytes", api.ErrQuota, adds(3, "a", great))
	b.spoil(t, other, 80)
	b.refused(t, "a quota is told ahead of other bytes", api.ErrQuota, adds(3, "a", great))
	b.refused(t, "other bytes", api.ErrHash, adds(2, "a", great))
}

// P16.2: objects that are let go make room.
func TestAddRoom(t *testing.T) {
	b := formatted(t, api.Quota{Bytes: 100, Objects: 1, Roots: 1})
	p := b.must(t, "a", adds(1, "a", file("x")), roots(1, "r", pathOf(t, adds(1, "a", file("x")))))[0]
	b.refused(t, "b", api.ErrQuota, adds(1, "b", file("y")))
	b.refused(t, "b, behind a collect that does nothing", api.ErrQuota, collects(1), adds(1, "b", file("y")))
	b.must(t, "b", unroots(1, "r"), collects(1), adds(1, "b", file("y")))
	if b.p.at(p) != nil {
		t.Error("a is there")
	}
}

// P16.2: ErrHash, if the bytes that lie there are others, be it the user's own object or another one's.
func TestAddOtherBytes(t *testing.T) {
	d := adds(1, "a", long(1, 150))
	path, _ := ownOf(t, d)
	for _, bit := range []int{0, 7, 511, 512, 1023, 1024, 1199} {
		b := formatted(t, some, some)
		b.must(t, "a", d)
		b.spoil(t, path, bit)
		other := d
		other.Who = 2
		b.refused(t, "its own", api.ErrHash, d)
		b.refused(t, "another one's", api.ErrHash, other)
		b.must(t, "adopted all the same", adopts(2, path))
		b.refused(t, "its own", api.ErrHash, other)
		b.spoil(t, path, bit)
		b.must(t, "its own", d, other)
	}
	// A bit behind its bytes is none of them.
	b := formatted(t, some, some)
	b.must(t, "a", adds(1, "a", file("x")))
	p := pathOf(t, adds(1, "a", file("x")))
	b.p.at(p).bytes = append(b.p.at(p).bytes, 0)
	b.spoil(t, p, 24)
	b.p.at(p).bytes = b.p.at(p).bytes[:3]
	b.must(t, "a", adds(1, "a", file("x")), adds(2, "a", file("x")))
}

// P16.2: ErrHash, if there is another object of its path; a quota that is used up, and refs that are not held, are told ahead of it.
func TestAddAnotherObject(t *testing.T) {
	ref := thingOf(adds(1, "r", file("r")), runs(10, 1), 1, 2)
	d := adds(1, "a", refers(ref.Path, dummy2()), ref.Path)
	for what, change := range map[string]func(x *thing){
		"of another size":      func(x *thing) { x.Size--; x.bytes = x.bytes[:len(x.bytes)-1] },
		"that refers to none":  func(x *thing) { x.Refs = nil },
		"that is not in it":    func(x *thing) { x.Self = false },
		"that refers to other": func(x *thing) { x.Refs = []api.Path{{Hash: api.Hash{255}, Name: "z"}} },
	} {
		p := plainOf(fitting(4, some, some, none, some), some, some, none, some)
		x := thingOf(d, runs(3, 2), 1)
		z := thing{api.Object{Path: api.Path{Hash: api.Hash{255}, Name: "z"}}, nil, nil, []int{1}}
		change(&x)
		p.things = append(p.things, ref, x, z)
		b := laid(t, p)
		for who, w := range []api.Errno{api.ErrHash, api.ErrHash, api.ErrRefs, api.ErrRefs} {
			other := d
			other.Who = who + 1
			b.refused(t, "another object "+what, w, other)
		}
		other := adds(3, "a", refers(dummy2()))
		b.refused(t, "a quota", api.ErrQuota, other)
	}
}

// P16.2: of a user that there is not each deed tells ErrUser, ahead of all else; a kind that is none tells ErrArg.
func TestUsersAndKinds(t *testing.T) {
	b := formatted(t, some, some)
	p := b.must(t, "a", adds(1, "a", file("x")))[0]
	b.must(t, "root, note", roots(1, "r", p), notes(1, "k", 1))
	for _, who := range noUsers {
		for kind := -1; kind <= 10; kind++ {
			for _, d := range []store.Deed{
				{Kind: kind, Who: who},
				{Kind: kind, Who: who, Name: "k", Bytes: file("x"), Path: p},
				{Kind: kind, Who: who, Name: "r", Bytes: []byte{9}, Path: api.Path{Name: "none"}},
				{Kind: kind, Who: who, Name: strings.Repeat("k", 99), Bytes: make([]byte, 5000), Of: []api.Path{{}}},
			} {
				b.refusedShort(t, "no user", api.ErrUser, d)
			}
		}
	}
	for _, kind := range []int{0, -1, 9, 10, -8, 257, 1<<32 + 1, math.MinInt, math.MaxInt} {
		b.refused(t, "no kind", api.ErrArg, store.Deed{Kind: kind, Who: 1})
		b.refused(t, "no kind", api.ErrArg, store.Deed{Kind: kind, Who: 2, Name: "k", Bytes: file("x"), Path: p})
	}
	b.wantAlike(t, "at the end")
}
