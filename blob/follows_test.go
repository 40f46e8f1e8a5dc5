package blob_test

import (
	"bytes"
	"math/rand"
	"slices"
	"testing"

	"spence/api"
	"spence/blob"
	"spence/dev"
	"spence/log"
)

// stored is bytes, and the runs that hold them.
type stored struct {
	b []byte
	l []api.Run
}

// heldOf are all runs of what is stored.
func heldOf(all []stored) []api.Run {
	var l []api.Run
	for _, x := range all {
		l = append(l, x.l...)
	}
	return l
}

// wantStored asks that all that is stored is read.
func wantStored(t *testing.T, d *dev.Device, s api.Shape, all []stored) {
	t.Helper()
	for _, x := range all {
		wantRead(t, d, s, x.b, x.l)
	}
}

// find finds sectors for so many bytes, and asks that they are apart from all that is held.
func find(t *testing.T, s api.Shape, many int, held []api.Run) ([]api.Run, api.Errno) {
	t.Helper()
	l, e := blob.Find(s, blob.Need(many), held...)
	if e != api.OK {
		return nil, e
	}
	both := slices.Concat(held, l)
	if !blob.Apart(s, both...) {
		t.Errorf("held %v: found %v", held, l)
	}
	before, _ := blob.Free(s, held...)
	behind, e := blob.Free(s, both...)
	if before-behind != plainNeed(many) || e != api.OK {
		t.Errorf("%d bytes: %d are free, then %d", many, before, behind)
	}
	return l, api.OK
}

// P7.4: rows of what is found, written, read, and let go; nothing that is held becomes another one, and nothing outside of data.
func TestRowsOfBlobs(t *testing.T) {
	for seed := range int64(40) {
		r := rand.New(rand.NewSource(seed))
		s := api.Shape{Log: 1 + r.Intn(4), Area: 1 + r.Intn(4), Data: 1 + r.Intn(60)}
		d := shaped(t, s)
		ahead := d.Kept()[:64*log.First(s)]
		var all []stored
		full := 0
		for range 120 {
			if len(all) > 0 && r.Intn(3) == 0 {
				i := r.Intn(len(all))
				all = slices.Delete(all, i, i+1)
			}
			x := stored{b: filled(r.Int()%100000, r.Intn(64*8))}
			var e api.Errno
			if x.l, e = find(t, s, len(x.b), heldOf(all)); e != api.OK {
				want(t, "Find", e, api.ErrFull)
				full++
				continue
			}
			want(t, "Write", blob.Write(d, s, x.b, x.l...), api.OK)
			all = append(all, x)
			wantStored(t, d, s, all)
		}
		if !bytes.Equal(d.Kept()[:64*log.First(s)], ahead) {
			t.Error("what lies ahead of the data is another one")
		}
		if full == 0 {
			t.Error("the sample never was full")
		}
		if t.Failed() {
			t.Fatalf("row %d", seed)
		}
	}
}

// P7.4: at whichever deed a Write crashes, and whatever is kept of what is pending, all that is held stays; what was told OK is there.
func TestCrashedAnywhere(t *testing.T) {
	for n := 1; n <= 6; n++ {
		for keep := range 16 {
			d := shaped(t, small)
			all := []stored{{filled(1, 60), runs(0, 1)}, {filled(2, 130), runs(8, 2, 2, 1)}}
			for _, x := range all {
				want(t, "Write", blob.Write(d, small, x.b, x.l...), api.OK)
			}
			x := stored{b: filled(3, 240)}
			x.l, _ = find(t, small, len(x.b), heldOf(all))
			d.Fuse(n)
			e := blob.Write(d, small, x.b, x.l...)
			if e == api.OK {
				all = append(all, x)
				d.Crash()
			}
			if (e == api.OK) != (n == 6) {
				t.Errorf("fuse %d: %d", n, e)
			}
			d.Wake(keep)
			wantStored(t, d, small, all)
		}
	}
}

// P7.4: what is found among held runs, till nothing is free; what is let go is found again.
func TestFillsUp(t *testing.T) {
	d := shaped(t, small)
	var all []stored
	for i := range 6 {
		x := stored{b: filled(i, 70+i)}
		x.l, _ = find(t, small, len(x.b), heldOf(all))
		want(t, "Write", blob.Write(d, small, x.b, x.l...), api.OK)
		all = append(all, x)
	}
	if free, e := blob.Free(small, heldOf(all)...); free != 0 || e != api.OK {
		t.Errorf("%d are free, %d", free, e)
	}
	_, e := find(t, small, 1, heldOf(all))
	want(t, "Find", e, api.ErrFull)
	wantStored(t, d, small, all)
	all = []stored{all[0], all[2], all[3], all[5]}
	x := stored{b: filled(9, 4*64)}
	x.l, e = find(t, small, len(x.b), heldOf(all))
	if !sameRuns(x.l, runs(2, 2, 8, 2)) || e != api.OK {
		t.Errorf("found %v, %d", x.l, e)
	}
	want(t, "Write", blob.Write(d, small, x.b, x.l...), api.OK)
	wantStored(t, d, small, append(all, x))
}
