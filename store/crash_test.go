package store_test

import (
	"bytes"
	"fmt"
	"testing"

	"spence/api"
	"spence/blob"
	"spence/dev"
	"spence/store"
)

// isOn says whether a store on a device has just what there is, by its rows and by the bytes that are read.
func (p *plain) isOn(t *testing.T, d *dev.Device, x *store.Store) bool {
	t.Helper()
	if !sameRows(rowsOn(t, d, p.shape), p.rows()) {
		return false
	}
	for _, y := range p.things {
		if got, e := x.Read(y.Path); e != api.OK || !bytes.Equal(got, y.bytes) {
			return false
		}
	}
	return true
}

// crashed does a turn that crashes at a deed of the device; what is pending is kept by keep. It says whether the turn told OK. The store is what it was, or, behind an OK, what it becomes; the device is that, or, behind an error, one of both, down to each byte as by calls of blob and table.
func crashed(t *testing.T, p *plain, fuse, keep int, l ...store.Deed) bool {
	t.Helper()
	b := laid(t, p.clone())
	ahead, behind := p, p.clone()
	_, writes, e := behind.turn(l...)
	want(t, "the turn, after the chapter", e, api.OK)
	b.d.Fuse(fuse)
	_, e = b.x.Turn(l...)
	b.mirror.Fuse(fuse)
	w := api.OK
	for _, x := range writes {
		if w == api.OK {
			w = blob.Write(b.mirror, b.shape, x.bytes, x.runs...)
		}
	}
	if w == api.OK {
		w = b.mt.Commit(changed(ahead.rows(), behind.rows())...)
	}
	what := fmt.Sprintf("crashed at %d, keep %b", fuse, keep)
	want(t, what, e, w)
	if e == api.OK {
		b.p = behind
		b.wantAlike(t, what)
		b.d.Crash()
		b.mirror.Crash()
	} else {
		b.p = ahead
		b.wantDown(t, what)
	}
	want(t, "Wake", b.d.Wake(keep), api.OK)
	want(t, "Wake", b.mirror.Wake(keep), api.OK)
	if !bytes.Equal(b.d.Kept(), b.mirror.Kept()) {
		t.Errorf("%s: other bytes are kept", what)
	}
	b.x = open(t, b.d, b.shape)
	switch {
	case behind.isOn(t, b.d, b.x):
		b.p = behind
	case e == api.OK || !ahead.isOn(t, b.d, b.x):
		t.Fatalf("%s: it is neither as ahead of it, nor as behind it: %s", what, told(rowsOn(t, b.d, b.shape)))
	}
	b.wantAlike(t, what+", opened again")
	for _, path := range b.x.Of(0) {
		want(t, what+": Check", b.x.Check(path), api.OK)
	}
	return e == api.OK
}

// P16.5: wherever a turn crashes, and whatever is kept, it is done whole, or not at all; what was told OK stays, and all bytes are what their paths say.
func TestCrashedAnywhere(t *testing.T) {
	p, a, bp, c, _ := sample()
	own := p.at(c).bytes
	for what, l := range map[string][]store.Deed{
		"a note":              {notes(1, "k", 2)},
		"an add":              {adds(1, "n", long(5, 140))},
		"an add of another's": {adds(1, "c", long(1, 150))},
		"a mend":              {mends(2, c, own)},
		"a collect":           {collects(2)},
		"an adopt and a root": {adopts(2, bp), roots(2, "b", bp)},
		"all at once":         {unroots(1, "main"), unroots(1, "-"), collects(1), adds(1, "n", refers(a, dummy2()), a), mends(2, c, own), collects(2), adds(2, "c", long(1, 150)), roots(2, "c", c), notes(2, "k"), unnotes(1, "k")},
	} {
		for _, sectors := range []int{1, 40} {
			p := p.clone()
			p.shape.Log = sectors
			for _, keep := range []int{0, -1, 0x2d5a96b5a5c3, 0x1346942d5af0} {
				done := false
				for fuse := 1; !done; fuse++ {
					if fuse > 120 {
						t.Fatalf("%s: it crashes at each fuse", what)
					}
					done = crashed(t, p, fuse, keep, l...)
				}
			}
			if t.Failed() {
				t.Fatal(what)
			}
		}
	}
}
