package store_test

import (
	"fmt"
	"math/rand"
	"slices"
	"testing"

	"spence/api"
	"spence/base"
	"spence/store"
)

// someBytes is an archive that may refer to some of these paths, and to itself; now and then it is none.
func someBytes(r *rand.Rand, l []api.Path) []byte {
	s := []string{"", "x", "y", string(filled(1, 60)), string(filled(2, 61)), string(filled(3, 200))}[r.Intn(6)]
	for range r.Intn(3) {
		if len(l) > 0 {
			s += " " + base.Letters(l[r.Intn(len(l))].Hash)
		}
	}
	if r.Intn(4) == 0 {
		s += base.Letters(dummy)
	}
	b := file(s)
	if r.Intn(40) == 0 {
		b = b[1:]
	}
	return b
}

// somePath is one of these, or, now and then, one that is not there.
func somePath(r *rand.Rand, l []api.Path) api.Path {
	if len(l) == 0 || r.Intn(12) == 0 {
		return api.Path{Hash: api.Hash{byte(r.Intn(3))}, Name: []string{"a", "b", ""}[r.Intn(3)]}
	}
	return l[r.Intn(len(l))]
}

// someName is one of few; now and then it is none.
func someName(r *rand.Rand) string {
	if r.Intn(25) == 0 {
		return []string{"", ".a", "a b"}[r.Intn(3)]
	}
	return []string{"a", "b", "k"}[r.Intn(3)]
}

// someDeed is one of a user's, by what there is.
func someDeed(r *rand.Rand, p *plain, who int) store.Deed {
	all, own := p.of(0), p.of(who)
	if r.Intn(3) > 0 {
		all = own
	}
	u := p.users[who-1]
	switch r.Intn(18) {
	case 0, 1, 2, 3, 4, 5:
		return adds(who, someName(r), someBytes(r, all), all...)
	case 6, 7:
		return adopts(who, somePath(r, p.of(0)))
	case 8, 9:
		return roots(who, someName(r), somePath(r, all))
	case 10:
		if len(u.roots) > 0 && r.Intn(8) > 0 {
			return unroots(who, u.roots[r.Intn(len(u.roots))].Name)
		}
		return unroots(who, someName(r))
	case 11, 12:
		return notes(who, someName(r), filled(r.Intn(5), r.Intn(100))...)
	case 13:
		if len(u.notes) > 0 && r.Intn(8) > 0 {
			return unnotes(who, u.notes[r.Intn(len(u.notes))].Key)
		}
		return unnotes(who, someName(r))
	case 14, 15:
		return collects(who)
	}
	path := somePath(r, own)
	if r.Intn(8) == 0 {
		path = somePath(r, all)
	}
	b := file("x")
	if x := p.at(path); x != nil && r.Intn(8) > 0 {
		b = x.bytes
	}
	return mends(who, path, b)
}

// someDeeds are a few, of users that may not be.
func someDeeds(r *rand.Rand, p *plain) []store.Deed {
	var l []store.Deed
	for range []int{1, 1, 1, 2, 3, 5}[r.Intn(6)] {
		d := someDeed(r, p, 1+r.Intn(len(p.users)))
		if r.Intn(40) == 0 {
			d.Who = len(p.users) + 1
		}
		if r.Intn(60) == 0 {
			d.Kind = r.Intn(12)
		}
		l = append(l, d)
	}
	return l
}

// someUsers are quotas of little.
func someUsers(r *rand.Rand) []api.Quota {
	var l []api.Quota
	for range 1 + r.Intn(4) {
		l = append(l, api.Quota{Bytes: 100 + r.Intn(600), Objects: 1 + r.Intn(5), Roots: r.Intn(4), Notes: r.Intn(4)})
	}
	return l
}

// P16.2, P16.3: rows of turns by chance, held against the chapter's words, down to the device's bytes; bits are spoilt in between, and the store is opened again.
func TestByChance(t *testing.T) {
	tells := map[string]int{}
	for seed := range int64(150) {
		r := rand.New(rand.NewSource(seed))
		b := formatted(t, someUsers(r)...)
		for step := range 40 {
			l := someDeeds(r, b.p)
			what := fmt.Sprintf("seed %d, step %d", seed, step)
			_, e := b.turn(t, what, l...)
			tells[fmt.Sprint("error ", e)]++
			for _, d := range l {
				tells[fmt.Sprint("kind ", d.Kind, " ", e == api.OK)]++
			}
			if e == api.ErrFull && len(l) == 1 {
				t.Errorf("%s: a turn of one deed is told ErrFull", what)
			}
			if paths := b.p.of(0); len(paths) > 0 && r.Intn(10) == 0 {
				path := paths[r.Intn(len(paths))]
				b.spoil(t, path, r.Intn(8*b.p.at(path).Size))
				b.wantAlike(t, what+", spoilt")
			}
			if r.Intn(10) == 0 {
				b.again(t, what)
			}
			if t.Failed() {
				t.FailNow()
			}
		}
	}
	for _, e := range []api.Errno{api.OK, api.ErrArg, api.ErrShape, api.ErrNone, api.ErrQuota, api.ErrHash, api.ErrRefs, api.ErrUser} {
		if tells[fmt.Sprint("error ", e)] < 30 {
			t.Errorf("error %d is told too seldom: %v", e, tells)
		}
	}
	for kind := 1; kind <= 8; kind++ {
		for _, ok := range []bool{true, false} {
			if tells[fmt.Sprint("kind ", kind, " ", ok)] < 30 {
				t.Errorf("kind %d, %v is told too seldom: %v", kind, ok, tells)
			}
		}
	}
}

// P16.5: rows of turns by chance, of which some crash: what was told OK stays, what crashed is done whole or not at all, and it goes on from there; all bytes are what their paths say.
func TestCrashesByChance(t *testing.T) {
	ends := map[string]int{}
	for seed := range int64(120) {
		r := rand.New(rand.NewSource(1000 + seed))
		quotas := someUsers(r)
		b := formattedAs(t, fitting(1+r.Intn(30), quotas...), quotas...)
		for step := range 40 {
			what := fmt.Sprintf("seed %d, step %d", seed, step)
			l := someDeeds(r, b.p)
			ahead, behind := b.p.clone(), b.p.clone()
			if r.Intn(2) == 0 {
				b.d.Fuse(1 + r.Intn(7))
			}
			_, e := b.x.Turn(l...)
			_, _, w := behind.turn(l...)
			if e != api.ErrDown {
				want(t, what, e, w)
				b.p = behind
				b.wantAlike(t, what)
				b.d.Fuse(0)
				continue
			}
			want(t, what+", after the chapter", w, api.OK)
			b.wantDown(t, what)
			want(t, "Wake", b.d.Wake(r.Int()|-r.Intn(2)), api.OK)
			b.x = open(t, b.d, b.shape)
			switch {
			case behind.isOn(t, b.d, b.x):
				b.p = behind
				ends["behind"]++
			case ahead.isOn(t, b.d, b.x):
				ends["ahead"]++
			default:
				t.Fatalf("%s: it is neither as ahead of it, nor as behind it", what)
			}
			b.wantAlike(t, what+", opened again")
			for _, path := range b.x.Of(0) {
				want(t, what+": Check", b.x.Check(path), api.OK)
			}
			if t.Failed() {
				t.FailNow()
			}
		}
	}
	if ends["ahead"] < 100 || ends["behind"] < 15 {
		t.Errorf("ends: %v", ends)
	}
}

// P16.5: what a user is told, and has, hangs on its own deeds alone, but for what it adopts: it is as in a store in which it is alone.
func TestOwnDeedsAlone(t *testing.T) {
	done := 0
	for seed := range int64(60) {
		r := rand.New(rand.NewSource(2000 + seed))
		quotas := []api.Quota{{Bytes: 500, Objects: 4, Roots: 2, Notes: 2}, {Bytes: 300, Objects: 3, Roots: 1, Notes: 1}, {Bytes: 900, Objects: 5, Roots: 2}}
		all := formatted(t, quotas...)
		var alone []*both
		for range quotas {
			alone = append(alone, formatted(t, quotas...))
		}
		for step := range 60 {
			what := fmt.Sprintf("seed %d, step %d", seed, step)
			who := 1 + r.Intn(3)
			own := alone[who-1]
			d := someDeed(r, own.p, who)
			if d.Kind == store.DeedAdopt {
				continue
			}
			got, e := all.x.Turn(d)
			w, we := own.turn(t, what, d)
			want(t, what, e, we)
			wantPaths(t, what, got, w)
			if e == api.OK {
				done++
			}
			for i, own := range alone {
				who := i + 1
				wantPaths(t, what+": Of", all.x.Of(who), own.x.Of(who))
				if !slices.Equal(all.x.Roots(who), own.x.Roots(who)) || !sameRows(all.x.Notes(who, ""), own.x.Notes(who, "")) {
					t.Errorf("%s: %d has something else", what, who)
				}
				for _, path := range own.x.Of(who) {
					wantRead(t, what, all.x, path, own.p.at(path), true)
				}
			}
			if t.Failed() {
				t.FailNow()
			}
		}
	}
	if done < 1000 {
		t.Errorf("%d deeds were done", done)
	}
}

// P16.5: no turn of one deed tells ErrFull, though a user have all that it may, and free sectors be in pieces.
func TestNeverFull(t *testing.T) {
	most := 0
	for seed := range int64(20) {
		r := rand.New(rand.NewSource(3000 + seed))
		b := formatted(t, api.Quota{Bytes: 9000, Objects: 6, Roots: 1})
		for step := range 60 {
			d := []store.Deed{adds(1, "a", archive(2+r.Intn(4095)))}
			switch l := b.p.of(1); {
			case r.Intn(3) == 0:
				d[0] = adds(1, "b", archive(64*r.Intn(20)+65))
			case len(l) > 0 && r.Intn(2) == 0:
				path := l[r.Intn(len(l))]
				d[0] = mends(1, path, b.p.at(path).bytes)
			case len(l) > 3 && r.Intn(3) == 0:
				d = []store.Deed{roots(1, "r", l[r.Intn(len(l))]), collects(1)}
			}
			_, e := b.x.Turn(d...)
			_, _, w := b.p.turn(d...)
			want(t, fmt.Sprintf("seed %d, step %d", seed, step), e, w)
			if e == api.ErrFull {
				t.Fatal("ErrFull")
			}
			free := 0
			for _, x := range b.p.taken() {
				if !x {
					free++
				}
			}
			if free < 90 {
				most++
			}
		}
		b.wantAlike(t, "at the end")
	}
	if most < 100 {
		t.Errorf("%d times there were few free sectors", most)
	}
}
