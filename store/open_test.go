package store_test

import (
	"bytes"
	"fmt"
	"maps"
	"slices"
	"strings"
	"testing"

	"spence/api"
	"spence/base"
	"spence/dev"
	"spence/log"
	"spence/name"
	"spence/store"
	"spence/table"
	"spence/view"
)

// runs are these: places and numbers of sectors, by turns.
func runs(l ...int) []api.Run {
	var runs []api.Run
	for i := 0; i < len(l); i += 2 {
		runs = append(runs, api.Run{At: l[i], Many: l[i+1]})
	}
	return runs
}

// thingOf is what a deed adds, where it lies, and who holds it.
func thingOf(d store.Deed, at []api.Run, holders ...int) thing {
	o, own, e := name.Make(d.Name, d.Bytes, d.Self, d.Of...)
	if e != api.OK {
		panic(e)
	}
	return thing{o, own, at, holders}
}

// sample is two users who have something of everything, and one who has nothing: a, to which b refers, is held by both; c, of three sectors, and itself are held by one.
func sample() (p *plain, a, b, c, itself api.Path) {
	p = plainOf(fitting(4, some, some, none), some, some, none)
	p.things = append(p.things, thingOf(adds(1, "a", file("x")), runs(3, 1), 1, 2))
	a = p.things[0].Path
	p.things = append(p.things,
		thingOf(adds(1, "b", refers(a), a), runs(9, 1), 1),
		thingOf(adds(2, "c", long(1, 150)), runs(7, 1, 4, 1, 0, 1), 2),
		thingOf(adds(2, "d", refers(dummy2())), runs(20, 1), 2))
	b, c, itself = p.things[1].Path, p.things[2].Path, p.things[3].Path
	p.users[0].roots = []view.Root{{Name: "main", Path: b}, {Name: "a.1", Path: a}, {Name: "-", Path: b}}
	p.users[1].roots = []view.Root{{Name: "main", Path: a}}
	p.users[0].notes = []api.Row{{Key: "k", Val: []byte{1}}, {Key: strings.Repeat("k", 62), Val: filled(3, 2048)}, {Key: "\x00"}}
	p.users[1].notes = []api.Row{{Key: "k", Val: []byte{2, 2}}}
	return p, a, b, c, itself
}

// dummy2 is a path of the hash that stands for an object's own.
func dummy2() api.Path {
	return api.Path{Hash: dummy, Name: "d"}
}

// P16.1: a store has what its rows say.
func TestOpen(t *testing.T) {
	p, _, _, _, itself := sample()
	b := laid(t, p)
	b.wantAlike(t, "opened")
	if o, _ := b.x.Find(itself); !o.Self {
		t.Error("it does not refer to itself")
	}
	b.again(t, "once more")
	if b.d.Stat().Pending != 0 {
		t.Error("something is pending")
	}
}

// P16.1: the rows that the chapter names, byte by byte, as a store puts them.
func TestRows(t *testing.T) {
	b := formatted(t, some, none)
	p := b.must(t, "add", adds(1, "a", file("x")))[0]
	q := b.must(t, "add", adds(1, "b", refers(p, dummy2()), p))[0]
	b.must(t, "root and note", roots(1, "main", q), notes(1, "key", 1, 2, 3))
	at, bt := base.Letters(p.Hash)+"-a", base.Letters(q.Hash)+"-b"
	textOf := func(s string) string { return string(rune(len(s))) + s }
	w := []api.Row{
		{Key: "h1" + at}, {Key: "h1" + bt},
		{Key: "n1key", Val: []byte{1, 2, 3}},
		{Key: "o" + at, Val: []byte(textOf(at) + "\x00\x03\x00")},
		{Key: "o" + bt, Val: []byte(textOf(bt) + "\x01" + textOf(at) + "\x48\x01")},
		{Key: "p" + at, Val: []byte{1, 0, 1}},
		{Key: "p" + bt, Val: []byte{1, 1, 2}},
		{Key: "q1", Val: []byte{208, 15, 6, 3, 3}}, {Key: "q2", Val: []byte{0, 0, 0, 0}},
		{Key: "r1main", Val: []byte(bt)},
	}
	slices.SortFunc(w, func(a, b api.Row) int { return strings.Compare(a.Key, b.Key) })
	if got := rowsOn(t, b.d, b.shape); !sameRows(got, w) {
		t.Errorf("rows:\n%snot\n%s", told(got), told(w))
	}
}

// P16.1: rows that are right, though no Turn makes such.
func TestOpenRight(t *testing.T) {
	for what, change := range map[string]func(p *plain){
		"nothing but users": func(p *plain) { *p = *plainOf(p.shape, some, some, none) },
		"one user":          func(p *plain) { *p = *plainOf(p.shape, none) },
		"eight users":       func(p *plain) { *p = *plainOf(p.shape, make([]api.Quota, 8)...) },
		"runs that touch":   func(p *plain) { p.things[2].runs = runs(4, 1, 5, 1, 6, 1) },
		"runs backwards":    func(p *plain) { p.things[2].runs = runs(6, 1, 5, 1, 4, 1) },
		"the last sectors":  func(p *plain) { p.things[2].runs = runs(p.shape.Data-3, 3) },
		"64 runs": func(p *plain) {
			var l []int
			for i := range 64 {
				l = append(l, 136-2*i, 1)
			}
			p.users[1].quota.Bytes = 5000
			p.shape = fitting(4, p.users[0].quota, p.users[1].quota, none)
			p.things[1].runs, p.things[0].runs, p.things[3].runs = runs(1, 1), runs(3, 1), runs(5, 1)
			p.things[2] = sized(p.things[2], 4096, l...)
		},
		"an object of no bytes":            func(p *plain) { p.things[2] = sized(p.things[2], 0) },
		"an object that is its one sector": func(p *plain) { p.things[2] = sized(p.things[2], 64, 7, 1) },
		"bytes that are not its own":       func(p *plain) { p.things[2].bytes = filled(9, 150) },
		"a name of 24 letters": func(p *plain) {
			p.things[2].Path.Name = strings.Repeat("n", 24)
			p.users[1].roots = append(p.users[1].roots, view.Root{Name: strings.Repeat("r", 24), Path: p.things[2].Path})
		},
		"paths of one hash": func(p *plain) {
			p.things[3].Path.Hash, p.things[3].Self = p.things[2].Path.Hash, false
		},
		"what just fits": func(p *plain) {
			_, n := p.sizes(2)
			p.users[1].quota = api.Quota{Bytes: n, Objects: 3, Roots: 1, Notes: 1}
		},
		"a ring": func(p *plain) {
			p.things[2].Refs, p.things[3].Refs = []api.Path{p.things[3].Path}, []api.Path{p.things[2].Path}
		},
		"held by all": func(p *plain) {
			p.users[2].quota = some
			p.shape = fitting(4, some, some, some)
			for i := range p.things {
				p.things[i].holders = []int{1, 2, 3}
			}
		},
		"32 refs": func(p *plain) {
			x := &p.things[2]
			x.Refs = nil
			for i := range 31 {
				y := thing{api.Object{Path: api.Path{Hash: api.Hash{byte(i)}, Name: strings.Repeat("y", 24)}, Size: 1}, []byte{9}, runs(30+i, 1), []int{2}}
				p.things = append(p.things, y)
				p.things[2].Refs = append(p.things[2].Refs, y.Path)
			}
			p.things[2].Refs = plainSorted(append(p.things[2].Refs, p.things[0].Path))
			p.users[1].quota.Objects = 40
			p.shape = fitting(4, p.users[0].quota, p.users[1].quota, none)
		},
	} {
		p, _, _, _, _ := sample()
		change(p)
		b := laid(t, p)
		b.wantAlike(t, what)
	}
}

// sized is a thing of another size, which lies there.
func sized(x thing, size int, at ...int) thing {
	x.Size, x.bytes, x.runs = size, filled(5, size), runs(at...)
	return x
}

// wantNone asks that Open tells an error, twice alike, and no store, and that nothing is done.
func wantNone(t *testing.T, what string, d *dev.Device, s api.Shape, e api.Errno) {
	t.Helper()
	stat, kept := d.Stat(), d.Kept()
	for range 2 {
		x, got := store.Open(d, s)
		want(t, what, got, e)
		if x != nil {
			t.Errorf("%s: a store is told beside an error", what)
		}
	}
	if d.Stat() != stat || !bytes.Equal(d.Kept(), kept) {
		t.Errorf("%s: something is done", what)
	}
}

// wrongRows are ways in which rows are made wrong.
func wrongRows(a, b, c, itself api.Path) map[string]func(r map[string][]byte) {
	at, bt, ct, st := text(a), text(b), text(c), text(itself)
	other := text(api.Path{Hash: api.Hash{1}, Name: "other"})
	l := map[string]func(r map[string][]byte){}
	put := func(key string, val ...byte) {
		l[fmt.Sprintf("%q is %d", key, val)] = func(r map[string][]byte) { r[key] = val }
	}
	drop := func(key string) {
		l[fmt.Sprintf("%q is not there", key)] = func(r map[string][]byte) {
			if _, ok := r[key]; !ok {
				panic("no such row: " + key)
			}
			delete(r, key)
		}
	}
	// Users.
	drop("q1")
	drop("q2")
	for _, key := range []string{"q", "q0", "q5", "q9", "q11", "q1 ", "q01", "q10", "qa", "Q4"} {
		put(key, 0, 0, 0, 0)
	}
	put("q4", 129, 32, 6, 3, 3)
	put("q4", 0, 9, 0, 0)
	for _, val := range [][]byte{nil, {0}, {208, 15, 6, 3}, {208, 15, 6, 3, 3, 0}, {208, 143, 0, 6, 3, 3}, {208, 15, 6, 3, 131, 0}, {208, 15, 151, 1, 3, 3}, {208, 15, 6, 101, 3}, {208, 15, 6, 3, 145, 3}, {255, 255, 255, 1, 6, 3, 3}, {128, 128, 128, 128, 128, 32, 6, 3, 3}, {129, 128, 128, 128, 128, 32, 6, 3, 3}, []byte("quota")} {
		put("q1", val...)
	}
	// One object, root, note, byte more than one may have.
	put("q2", 208, 15, 2, 3, 3)
	put("q2", 208, 15, 6, 0, 3)
	put("q2", 208, 15, 6, 3, 0)
	put("q2", 150, 1, 6, 3, 3)
	put("q1", 208, 15, 1, 3, 3)
	put("q1", 208, 15, 6, 2, 3)
	put("q1", 208, 15, 6, 3, 2)
	put("q1", 10, 6, 3, 3)
	// Kinds that are none.
	for _, key := range []string{"\x00", "x", "a1", "O" + at, "s1main", "1", "\xff", "m1k", "p", "o", "h", "r", "n", " q1"} {
		put(key)
	}
	// Objects.
	for _, of := range []string{at, bt, ct, st} {
		drop("o" + of)
		drop("p" + of)
		put("o" + of)
		put("o"+of, 1)
		put("o"+of, []byte(of)...)
	}
	put("o"+ct, objectBytes(api.Object{Path: a, Size: 150})...)
	put("o"+ct, objectBytes(api.Object{Path: api.Path{Hash: c.Hash, Name: "cc"}, Size: 150})...)
	put("o"+ct, objectBytes(api.Object{Path: c, Size: 4097})...)
	put("o"+ct, objectBytes(api.Object{Path: c, Size: 150, Refs: []api.Path{c}})...)
	put("o"+ct, append(objectBytes(api.Object{Path: c, Size: 150}), 0)...)
	put("o"+other, objectBytes(api.Object{Path: api.Path{Hash: api.Hash{1}, Name: "other"}})...)
	put("o1"+at, objectBytes(api.Object{Path: a, Size: 3})...)
	// Sizes, and runs, of fewer and of more sectors than there are.
	for _, size := range []int{0, 1, 128, 193, 4096} {
		put("o"+ct, objectBytes(api.Object{Path: c, Size: size})...)
	}
	put("p"+other, 0)
	for _, val := range [][]byte{
		nil, {0}, {1}, {3}, {3, 7, 1, 4, 1, 0}, {3, 7, 1, 4, 1, 0, 1, 0}, {2, 7, 1, 4, 1}, {2, 7, 1, 4, 1, 0, 1}, {4, 7, 1, 4, 1, 0, 1, 30, 1}, {4, 7, 1, 4, 1, 0, 1}, {131, 0, 7, 1, 4, 1, 0, 1},
		{1, 20, 3}, {1, 8, 3}, {1, 2, 3}, {2, 30, 2, 31, 1}, {3, 7, 1, 4, 1, 4, 1}, {3, 7, 1, 4, 1, 3, 1}, {3, 7, 1, 4, 2, 0, 0}, {4, 7, 1, 4, 1, 0, 1, 30, 0},
		{1, 255, 127, 3}, {1, 132, 128, 128, 128, 128, 32, 3}, {2, 7, 3, 8, 128, 128, 128, 128, 128, 32}, {129, 128, 128, 128, 128, 32}, {128, 128, 128, 128, 128, 32, 7, 1, 4, 1, 0, 1}, {1, 136, 1, 3}, []byte("runs"),
	} {
		put("p"+ct, val...)
	}
	// Holders.
	drop("h1" + bt)
	drop("h2" + ct)
	drop("h1" + at)
	drop("h2" + at)
	for _, key := range []string{"h0" + at, "h4" + at, "h9" + at, "h" + at, "h3" + at, "h10" + at, "h1", "h1" + other, "h2" + bt[1:], "h2 " + at, "h1" + at + "a"} {
		put(key)
	}
	put("h1"+at, 0)
	put("h1"+at, 1)
	// Roots.
	for _, key := range []string{"r", "r1", "r0main", "r3main", "r4main", "r9main", "rmain", "r1.a", "r1a b", "r1" + strings.Repeat("n", 25), "r1fourth"} {
		put(key, []byte(at)...)
	}
	for _, val := range []string{"", ct, other, "main", at[1:], at + "\x00", base.Letters(a.Hash), base.Letters(a.Hash) + "-", strings.ToUpper(at)} {
		put("r1main", []byte(val)...)
	}
	put("r2main", []byte(bt)...)
	put("r2new", []byte(bt)...)
	// Notes.
	for _, key := range []string{"n", "n1", "n2", "n0k", "n3k", "n4k", "n9k", "nk", "n1fourth"} {
		put(key, 1)
	}
	return l
}

// P16.1: rows that are not right.
func TestOpenWrong(t *testing.T) {
	p, a, b, c, itself := sample()
	right := map[string][]byte{}
	for _, r := range p.rows() {
		right[r.Key] = r.Val
	}
	d, x := laidRows(t, p, p.rows())
	for what, change := range wrongRows(a, b, c, itself) {
		wrong := maps.Clone(right)
		change(wrong)
		rows := []api.Row{}
		for _, key := range slices.Sorted(maps.Keys(wrong)) {
			rows = append(rows, api.Row{Key: key, Val: wrong[key]})
		}
		l := changed(p.rows(), rows)
		if len(l) == 0 {
			t.Errorf("%s: the rows are right", what)
		}
		want(t, what, x.Commit(l...), api.OK)
		wantNone(t, what, d, p.shape, api.ErrShape)
		want(t, what, x.Commit(changed(rows, p.rows())...), api.OK)
	}
	wantTold(t, "right again", open(t, d, p.shape), p, true)
}

// P16.1: rows of things that are not right together, each of them being right alone.
func TestOpenWrongTogether(t *testing.T) {
	other := api.Path{Hash: api.Hash{1}, Name: "other"}
	for what, change := range map[string]func(p *plain){
		"no users":                                 func(p *plain) { *p = plain{shape: p.shape, things: p.things} },
		"nine users":                               func(p *plain) { *p = *plainOf(p.shape, make([]api.Quota, 9)...) },
		"held by nobody":                           func(p *plain) { p.things[2].holders = nil },
		"a ref to what is not there":               func(p *plain) { p.things[2].Refs = []api.Path{other} },
		"a ref to what another one holds":          func(p *plain) { p.things[2].Refs = []api.Path{p.things[1].Path} },
		"a ref that one of two holders lacks":      func(p *plain) { p.things[0].Refs = []api.Path{p.things[2].Path} },
		"held without what it refers to":           func(p *plain) { p.things[0].holders = []int{2} },
		"a root of what is not held":               func(p *plain) { p.users[1].roots[0].Path = p.things[1].Path },
		"a root of what is not there":              func(p *plain) { p.users[1].roots[0].Path = other },
		"a root of one without objects":            func(p *plain) { p.users[2].quota.Roots = 1; p.users[2].roots = p.users[1].roots },
		"an object more than one may have":         func(p *plain) { p.users[1].quota.Objects = 2 },
		"a byte more than one may have":            func(p *plain) { _, n := p.sizes(2); p.users[1].quota.Bytes = n - 1 },
		"a root more than one may have":            func(p *plain) { p.users[0].quota.Roots = 2 },
		"a note more than one may have":            func(p *plain) { p.users[0].quota.Notes = 2 },
		"one who may have nothing":                 func(p *plain) { p.things[0].holders = []int{1, 2, 3} },
		"a sector in two objects":                  func(p *plain) { p.things[2].runs = runs(2, 3) },
		"a sector in two objects' first runs":      func(p *plain) { p.things[1].runs = p.things[0].runs },
		"a sector twice in one":                    func(p *plain) { p.things[2].runs = runs(4, 2, 5, 1) },
		"a sector behind the data":                 func(p *plain) { p.things[2].runs = runs(p.shape.Data-2, 3) },
		"a sector far behind the data":             func(p *plain) { p.things[2].runs = runs(9000, 3) },
		"a sector too few":                         func(p *plain) { p.things[2].runs = runs(4, 2) },
		"a sector too many":                        func(p *plain) { p.things[2].runs = runs(4, 4) },
		"a run of no sectors":                      func(p *plain) { p.things[2].runs = runs(4, 3, 0, 0) },
		"no runs":                                  func(p *plain) { p.things[2].runs = nil },
		"a run of what has no bytes":               func(p *plain) { x := sized(p.things[2], 0); x.runs = runs(4, 1); p.things[2] = x },
		"a run more than an archive has sectors":   func(p *plain) { p.things[2].runs = runs(slices.Repeat([]int{4, 0}, 65)...) },
		"an object that is not right":              func(p *plain) { p.things[2].Size = 4097 },
		"an object of a name that is none":         func(p *plain) { p.things[2].Path.Name = ".c" },
		"a quota that is not right":                func(p *plain) { p.users[2].quota.Roots = 101 },
		"quotas that do not fit the area":          func(p *plain) { p.users[2].quota.Objects = 1 },
		"quotas that do not fit the area by a row": func(p *plain) { p.users[2].quota.Notes = 1 },
		"quotas that do not fit the data":          func(p *plain) { p.users[2].quota.Bytes = 64 },
	} {
		p, _, _, _, _ := sample()
		change(p)
		d, _ := laidRows(t, p, p.rows())
		wantNone(t, what, d, p.shape, api.ErrShape)
	}
}

// P16.1: quotas that fit one shape do not fit another one, of which the device has the sectors, too.
func TestOpenShapes(t *testing.T) {
	b := formatted(t, some)
	b.must(t, "add", adds(1, "a", file("x")))
	s := b.shape
	s.Data--
	wantNone(t, "data too small", b.d, s, api.ErrShape)
	b.wantAlike(t, "it is as it was")
}

// P16.1: Open tells table.Open's errors, and ErrNone, if there are no rows.
func TestOpenErrors(t *testing.T) {
	s := fitting(3, some)
	wantNone(t, "no journal", device(t, s), s, api.ErrShape)
	for _, d := range []*dev.Device{nil, {}} {
		if x, e := store.Open(d, s); x != nil || e != api.ErrNil {
			t.Errorf("Open of no device: %v, %d", x, e)
		}
	}
	d := device(t, s)
	want(t, "table.Format", table.Format(d, s), api.OK)
	wantNone(t, "no rows", d, s, api.ErrNone)
	x, _ := table.Open(d, s)
	want(t, "Commit", x.Commit(api.Change{Key: "q1", Val: numbers(0, 0, 0, 0)}), api.OK)
	wantTold(t, "a row", open(t, d, s), plainOf(s, none), true)
	want(t, "Commit", x.Commit(api.Change{Key: "q1", Gone: true}), api.OK)
	wantNone(t, "no rows any more", d, s, api.ErrNone)
	for _, wrong := range []api.Shape{{}, {Log: -1, Area: s.Area, Data: s.Data}, {Log: s.Log, Area: s.Area, Data: s.Data + 1}, {Log: 1 << 62, Area: 1 << 62, Data: 1 << 62}} {
		wantNone(t, "a wrong shape", d, wrong, api.ErrArg)
	}
	j, _ := log.Open(d, s)
	want(t, "Append", j.Append([]byte("no changes")), api.OK)
	wantNone(t, "no table", d, s, api.ErrShape)
	want(t, "Format", store.Format(d, s, some), api.OK)
	d.Crash()
	wantNone(t, "a device that is down", d, s, api.ErrDown)
	d.Wake(0)
	wantTold(t, "awake", open(t, d, s), plainOf(s, some), true)
	narrow := api.Shape{Log: 10, Area: 2, Data: 300}
	d = device(t, narrow)
	want(t, "table.Format", table.Format(d, narrow), api.OK)
	j, _ = log.Open(d, narrow)
	want(t, "Append", j.Append(append([]byte{1, 0, 1, 'k', 200, 1}, filled(1, 200)...)), api.OK)
	wantNone(t, "a table longer than its area", d, narrow, api.ErrFull)
}
