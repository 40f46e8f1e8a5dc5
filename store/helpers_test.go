package store_test

import (
	"bytes"
	"fmt"
	"slices"
	"strings"
	"testing"

	"spence/api"
	"spence/base"
	"spence/blob"
	"spence/dev"
	"spence/log"
	"spence/name"
	"spence/pack"
	"spence/store"
	"spence/table"
	"spence/view"
)

// want asks that a call told this error.
func want(t *testing.T, what string, got, e api.Errno) {
	t.Helper()
	if got != e {
		t.Errorf("%s: error %d, not %d", what, got, e)
	}
}

// wantPaths asks that paths are those.
func wantPaths(t *testing.T, what string, l, w []api.Path) {
	t.Helper()
	if !slices.Equal(l, w) {
		t.Errorf("%s: %v, not %v", what, l, w)
	}
}

// fitting is the least shape that quotas fit, with a log of so many sectors.
func fitting(sectors int, quotas ...api.Quota) api.Shape {
	area, data := 100, 64
	for _, q := range quotas {
		area += 2400*q.Objects + 100*q.Roots + 2130*q.Notes + 100
		data += q.Bytes/64 + q.Objects
	}
	return api.Shape{Log: sectors, Area: (area + 63) / 64, Data: data}
}

// filled is so many bytes, none of them nought, and none of the letters of a hash.
func filled(seed, many int) []byte {
	b := make([]byte, many)
	for i := range b {
		b[i] = byte(128 + (seed*31+i*7+i/127)%127)
	}
	return b
}

// device is a device just as large as a shape, with no byte of nought.
func device(t *testing.T, s api.Shape) *dev.Device {
	t.Helper()
	d, e := dev.New(log.Sectors(s))
	if e != api.OK {
		t.Fatalf("New: %d", e)
	}
	fill := filled(1, 64+127)
	for at := range log.Sectors(s) {
		if e := d.Write(at, fill[at%127:][:64]); e != api.OK {
			t.Fatalf("Write: %d", e)
		}
	}
	want(t, "Flush", d.Flush(), api.OK)
	return d
}

// open is the device's store, which must be there.
func open(t *testing.T, d *dev.Device, s api.Shape) *store.Store {
	t.Helper()
	x, e := store.Open(d, s)
	if x == nil || e != api.OK {
		t.Fatalf("Open: %d", e)
	}
	return x
}

// rowsOn are those of the device's table.
func rowsOn(t *testing.T, d *dev.Device, s api.Shape) []api.Row {
	t.Helper()
	x, e := table.Open(d, s)
	if e != api.OK {
		t.Fatalf("table.Open: %d", e)
	}
	return x.Rows("")
}

// sameRows says whether rows are these.
func sameRows(l, w []api.Row) bool {
	return slices.EqualFunc(l, w, func(a, b api.Row) bool { return a.Key == b.Key && bytes.Equal(a.Val, b.Val) })
}

// told are rows to be read.
func told(l []api.Row) string {
	var s strings.Builder
	for _, r := range l {
		fmt.Fprintf(&s, "%q: %d\n", r.Key, r.Val)
	}
	return s.String()
}

// both is a store, what it is after the chapter's words, and a device on which each turn is done by calls of blob and table.
type both struct {
	shape  api.Shape
	d      *dev.Device
	x      *store.Store
	p      *plain
	mirror *dev.Device
	mt     *table.Table
}

// formatted is an empty store of quotas, on the least shape that they fit.
func formatted(t *testing.T, quotas ...api.Quota) *both {
	t.Helper()
	return formattedAs(t, fitting(4, quotas...), quotas...)
}

// formattedAs is an empty store of quotas.
func formattedAs(t *testing.T, s api.Shape, quotas ...api.Quota) *both {
	t.Helper()
	return laid(t, plainOf(s, quotas...))
}

// laid is a store that has that: its bytes are written, and its rows put.
func laid(t *testing.T, p *plain) *both {
	t.Helper()
	b := &both{shape: p.shape, p: p}
	b.d, _ = laidRows(t, p, p.rows())
	b.x = open(t, b.d, p.shape)
	b.mirror, b.mt = laidRows(t, p, p.rows())
	return b
}

// laidRows is a device on which there are these rows, and the bytes of all things, so far as they are right.
func laidRows(t *testing.T, p *plain, rows []api.Row) (*dev.Device, *table.Table) {
	t.Helper()
	d := device(t, p.shape)
	want(t, "table.Format", table.Format(d, p.shape), api.OK)
	x, e := table.Open(d, p.shape)
	want(t, "table.Open", e, api.OK)
	for _, y := range p.things {
		blob.Write(d, p.shape, y.bytes, y.runs...)
	}
	want(t, "Commit", x.Commit(changed(nil, rows)...), api.OK)
	return d, x
}

// turn does deeds by the store, and asks that all is as after the chapter's words.
func (b *both) turn(t *testing.T, what string, l ...store.Deed) ([]api.Path, api.Errno) {
	t.Helper()
	stat, kept, was := b.d.Stat(), b.d.Kept(), b.p.rows()
	got, e := b.x.Turn(l...)
	told, writes, we := b.p.turn(l...)
	want(t, what, e, we)
	wantPaths(t, what, got, told)
	if we != api.OK {
		if b.d.Stat() != stat || !bytes.Equal(b.d.Kept(), kept) {
			t.Errorf("%s: something is done of what is refused", what)
		}
		b.wantAlike(t, what)
		return got, e
	}
	ahead := b.mirror.Stat()
	for _, w := range writes {
		want(t, "Write", blob.Write(b.mirror, b.shape, w.bytes, w.runs...), api.OK)
	}
	want(t, "Commit", b.mt.Commit(changed(was, b.p.rows())...), api.OK)
	if did, w := b.d.Stat().Deeds-stat.Deeds, b.mirror.Stat().Deeds-ahead.Deeds; did != w {
		t.Errorf("%s: %d deeds of the device, not %d", what, did, w)
	}
	if !bytes.Equal(b.d.Kept(), b.mirror.Kept()) || b.d.Stat().Pending != 0 {
		t.Errorf("%s: other bytes are kept", what)
	}
	b.wantAlike(t, what)
	return got, e
}

// must is a turn that is done.
func (b *both) must(t *testing.T, what string, l ...store.Deed) []api.Path {
	t.Helper()
	got, e := b.turn(t, what, l...)
	if e != api.OK {
		t.Fatalf("%s: error %d", what, e)
	}
	return got
}

// refused is a turn that tells this error.
func (b *both) refused(t *testing.T, what string, w api.Errno, l ...store.Deed) {
	t.Helper()
	_, e := b.turn(t, what, l...)
	want(t, what, e, w)
}

// refusedShort asks that a turn tells an error, and that the device has nothing to do.
func (b *both) refusedShort(t *testing.T, what string, w api.Errno, l ...store.Deed) {
	t.Helper()
	stat := b.d.Stat()
	if told, e := b.x.Turn(l...); told != nil || e != w {
		t.Errorf("%s: %d deeds: %v, error %d, not %d", what, len(l), told, e, w)
	}
	if b.d.Stat() != stat {
		t.Errorf("%s: something is done", what)
	}
}

// again is opened anew.
func (b *both) again(t *testing.T, what string) {
	t.Helper()
	b.x = open(t, b.d, b.shape)
	b.wantAlike(t, what+", opened again")
}

// spoil turns a bit of an object's bytes.
func (b *both) spoil(t *testing.T, p api.Path, bit int) {
	t.Helper()
	x := b.p.at(p)
	x.bytes = bytes.Clone(x.bytes)
	x.bytes[bit/8] ^= 1 << (bit % 8)
	at := bit / 512
	for _, r := range x.runs {
		if at < r.Many {
			want(t, "Spoil", b.d.Spoil(log.First(b.shape)+r.At+at, bit%512), api.OK)
			want(t, "Spoil", b.mirror.Spoil(log.First(b.shape)+r.At+at, bit%512), api.OK)
			return
		}
		at -= r.Many
	}
	t.Fatalf("%v has no bit %d", p, bit)
}

// wantAlike asks that all that the store tells is as after the chapter's words, and its rows are.
func (b *both) wantAlike(t *testing.T, what string) {
	t.Helper()
	wantTold(t, what, b.x, b.p, true)
	if rows := rowsOn(t, b.d, b.shape); !sameRows(rows, b.p.rows()) {
		t.Errorf("%s: rows:\n%snot\n%s", what, told(rows), told(b.p.rows()))
	}
}

// wantTold asks that all that a store tells is what there is; one that is not up reads nothing.
func wantTold(t *testing.T, what string, x *store.Store, p *plain, up bool) {
	t.Helper()
	if x.Down() == up {
		t.Errorf("%s: Down is %v", what, x.Down())
	}
	var quotas []api.Quota
	for _, u := range p.users {
		quotas = append(quotas, u.quota)
	}
	if l := x.Quotas(); !slices.Equal(l, quotas) {
		t.Errorf("%s: quotas %v, not %v", what, l, quotas)
	}
	for who := -1; who <= 10; who++ {
		what := fmt.Sprint(what, ", of ", who)
		wantPaths(t, what+": Of", x.Of(who), p.of(who))
		o, n := x.Sizes(who)
		if wo, wn := p.sizes(who); o != wo || n != wn {
			t.Errorf("%s: Sizes %d, %d, not %d, %d", what, o, n, wo, wn)
		}
		var u user
		if who >= 1 && who <= len(p.users) {
			u = p.users[who-1]
		}
		if l := x.Roots(who); !slices.Equal(l, sortedRoots(u.roots)) {
			t.Errorf("%s: roots %v, not %v", what, l, u.roots)
		}
		for _, prefix := range []string{"", "a", "k"} {
			if l := x.Notes(who, prefix); !sameRows(l, sortedNotes(u.notes, prefix)) {
				t.Errorf("%s: notes %v, not %v", what, l, u.notes)
			}
		}
	}
	for _, path := range append(p.of(0), api.Path{}, api.Path{Name: "a"}, api.Path{Hash: api.Hash{1}, Name: "none"}) {
		wantRead(t, what, x, path, p.at(path), up)
	}
}

// wantRead asks for what a store tells of a path.
func wantRead(t *testing.T, what string, x *store.Store, path api.Path, y *thing, up bool) {
	t.Helper()
	what = fmt.Sprint(what, ", ", text(path))
	o, e := x.Find(path)
	if y == nil {
		want(t, what+": Find", e, api.ErrNone)
		y = &thing{}
	} else {
		want(t, what+": Find", e, api.OK)
	}
	if o.Path != y.Path || o.Size != y.Size || o.Self != y.Self || !slices.Equal(o.Refs, y.Refs) {
		t.Errorf("%s: Find: %v, not %v", what, o, y.Object)
	}
	read, check := api.OK, name.Check(y.Object, y.bytes)
	switch {
	case !up:
		read, check = api.ErrDown, api.ErrDown
	case y.Path == api.Path{}:
		read, check = api.ErrNone, api.ErrNone
	}
	got, e := x.Read(path)
	want(t, what+": Read", e, read)
	if w := y.bytes; read == api.OK && !bytes.Equal(got, w) || read != api.OK && got != nil {
		t.Errorf("%s: Read: %d, not %d", what, got, w)
	}
	want(t, what+": Check", x.Check(path), check)
}

// sortedRoots are these in order.
func sortedRoots(l []view.Root) []view.Root {
	l = slices.Clone(l)
	slices.SortFunc(l, func(a, b view.Root) int { return strings.Compare(a.Name, b.Name) })
	return l
}

// sortedNotes are those of these that begin so, in order.
func sortedNotes(l []api.Row, prefix string) []api.Row {
	l = slices.DeleteFunc(slices.Clone(l), func(r api.Row) bool { return !strings.HasPrefix(r.Key, prefix) })
	slices.SortFunc(l, func(a, b api.Row) int { return strings.Compare(a.Key, b.Key) })
	return l
}

// file is the archive of a file.
func file(b string) []byte {
	a, e := pack.Pack(api.Node{Kind: api.KindFile, Bytes: []byte(b)})
	if e != api.OK {
		panic(e)
	}
	return a
}

// long is the archive of a directory of two files, so many bytes long.
func long(seed, many int) []byte {
	for first := min(many/2, 2048); first >= 0; first-- {
		for _, second := range []int{many - first - 9, many - first - 10, many - first - 11, many - first - 12} {
			if second < 0 || second > 2048 {
				continue
			}
			a, _ := pack.Pack(api.Node{Kind: api.KindDir, Kids: []api.Kid{
				{Name: "a", Node: api.Node{Kind: api.KindFile, Bytes: filled(seed, first)}},
				{Name: "b", Node: api.Node{Kind: api.KindFile, Bytes: filled(seed+1, second)}},
			}})
			if len(a) == many {
				return a
			}
		}
	}
	panic("no such archive")
}

// archive is one of so many bytes.
func archive(many int) []byte {
	if many < 130 {
		return file(string(filled(many, many-2)))
	}
	return long(many, many)
}

// dummy stands for an object's own hash.
var dummy = api.Hash{7, 7, 7, 99}

// adds is the deed by which a user adds an archive, which may refer to itself, and to paths.
func adds(who int, name string, b []byte, of ...api.Path) store.Deed {
	return store.Deed{Kind: store.DeedAdd, Who: who, Name: name, Bytes: b, Self: dummy, Of: of}
}

// adopts is the deed by which a user adopts a path.
func adopts(who int, p api.Path) store.Deed {
	return store.Deed{Kind: store.DeedAdopt, Who: who, Path: p}
}

// roots is the deed by which a user keeps a path by a name.
func roots(who int, name string, p api.Path) store.Deed {
	return store.Deed{Kind: store.DeedRoot, Who: who, Name: name, Path: p}
}

// unroots is the deed by which it is kept no more.
func unroots(who int, name string) store.Deed {
	return store.Deed{Kind: store.DeedUnroot, Who: who, Name: name}
}

// notes is the deed by which a user notes something.
func notes(who int, key string, val ...byte) store.Deed {
	return store.Deed{Kind: store.DeedNote, Who: who, Name: key, Bytes: val}
}

// unnotes is the deed by which a note goes.
func unnotes(who int, key string) store.Deed {
	return store.Deed{Kind: store.DeedUnnote, Who: who, Name: key}
}

// collects is the deed by which a user lets go what its roots do not need.
func collects(who int) store.Deed {
	return store.Deed{Kind: store.DeedCollect, Who: who}
}

// mends is the deed by which an object's bytes are written anew.
func mends(who int, p api.Path, b []byte) store.Deed {
	return store.Deed{Kind: store.DeedMend, Who: who, Path: p, Bytes: b}
}

// ownOf are the path and the own bytes of what such a deed adds.
func ownOf(t *testing.T, d store.Deed) (api.Path, []byte) {
	t.Helper()
	o, own, e := name.Make(d.Name, d.Bytes, d.Self, d.Of...)
	if e != api.OK {
		t.Fatalf("Make: %d", e)
	}
	return o.Path, own
}

// refers is a file's archive with the letters of paths.
func refers(to ...api.Path) []byte {
	s := "uses"
	for _, p := range to {
		s += " " + base.Letters(p.Hash)
	}
	return file(s)
}

// hashOf is the hash of letters.
func hashOf(t *testing.T, letters string) api.Hash {
	t.Helper()
	h, e := base.Hash(letters)
	want(t, "Hash", e, api.OK)
	return h
}

// refersTo is the archive of a directory of a file with the letters of paths.
func refersTo(to ...api.Path) []byte {
	s := ""
	for _, p := range to {
		s += base.Letters(p.Hash)
	}
	return file(s)
}

// pathOf is the path of what a deed adds.
func pathOf(t *testing.T, d store.Deed) api.Path {
	t.Helper()
	p, _ := ownOf(t, d)
	return p
}

// some is a quota of a few of everything.
var some = api.Quota{Bytes: 2000, Objects: 6, Roots: 3, Notes: 3}
