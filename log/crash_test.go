package log_test

import (
	"math/rand"
	"testing"

	"spence/api"
	"spence/dev"
	"spence/log"
)

// deed is an Append, or a Switch, of a row.
type deed struct {
	turns      bool
	seed, many int
}

// on does it.
func (x deed) on(j *log.Journal) api.Errno {
	if x.turns {
		return j.Switch(row(x.seed, x.many))
	}
	return j.Append(row(x.seed, x.many))
}

// plainly does it after the chapter's words, and says what is told.
func (x deed) plainly(t *testing.T, p *plain) api.Errno {
	t.Helper()
	if x.turns {
		return p.turn(t, row(x.seed, x.many))
	}
	return p.append(t, row(x.seed, x.many))
}

// crashed does all of ahead, then x, at whose n-th deed the device crashes, and wakes it with keep; it says whether x was told OK.
func crashed(t *testing.T, s api.Shape, ahead []deed, x deed, n, keep int) (d *dev.Device, before, behind *plain, done bool) {
	t.Helper()
	d, j, p := formatted(t, s)
	for _, y := range ahead {
		want(t, "a deed ahead", y.on(j), y.plainly(t, p))
	}
	before, behind = p, p.clone()
	want(t, "plainly", x.plainly(t, behind), api.OK)
	d.Fuse(n)
	done = x.on(j) == api.OK
	if done {
		d.Crash()
	}
	want(t, "Wake", d.Wake(keep), api.OK)
	return d, before, behind, done
}

// P5.5: at whichever deed it crashes, and whatever is kept of what is pending, it is as ahead of it or as behind it; what was told OK is there.
func TestCrashedAnywhere(t *testing.T) {
	rows := [][]deed{
		nil,
		{{false, 1, 20}},
		{{false, 1, 62}, {false, 2, 1}},
		{{true, 1, 190}, {false, 2, 60}},
		{{true, 1, 100}, {true, 2, 192}},
		{{false, 1, 100}, {true, 2, 10}, {false, 3, 0}, {true, 4, 180}, {false, 5, 30}},
	}
	for i, ahead := range rows {
		for _, x := range []deed{{false, 9, 0}, {false, 9, 5}, {false, 9, 50}, {true, 9, 0}, {true, 9, 1}, {true, 9, 64}, {true, 9, 192}} {
			both := map[bool]int{}
			for n := 1; n <= 8; n++ {
				for keep := range 16 {
					d, before, behind, done := crashed(t, small, ahead, x, n, keep)
					j := open(t, d, small)
					switch {
					case behind.alike(j):
						both[true]++
					case before.alike(j) && !done:
						both[false]++
					default:
						t.Fatalf("row %d, %+v, fuse %d, keep %d: %s (told OK: %v)", i, x, n, keep, told(j), done)
					}
				}
			}
			if both[true] == 0 || both[false] == 0 {
				t.Errorf("row %d, %+v: %v", i, x, both)
			}
		}
	}
}

// P5.5: what is done behind a crash stands on what it left, not on what was lost.
func TestGoesOnBehindCrash(t *testing.T) {
	for _, x := range []deed{{false, 9, 50}, {true, 9, 150}} {
		for n := 1; n <= 7; n++ {
			for keep := range 8 {
				d, before, behind, _ := crashed(t, small, []deed{{true, 1, 192}, {false, 2, 20}}, x, n, keep)
				j, p := open(t, d, small), before
				if behind.alike(j) {
					p = behind
				}
				p.all = d.Kept()
				for _, y := range []deed{{false, 3, 12}, {false, 4, 0}, {true, 5, 60}, {false, 6, 80}} {
					want(t, "a deed behind", y.on(j), y.plainly(t, p))
					p.wantAlike(t, d, j)
				}
			}
		}
	}
}

// P5.5, the chapter's example: a, b, and a crash amid c.
func TestExample(t *testing.T) {
	for n := 1; n <= 5; n++ {
		for keep := range 2 {
			d, j, _ := formatted(t, small)
			want(t, "Append", j.Append([]byte("a")), api.OK)
			want(t, "Append", j.Append([]byte("b")), api.OK)
			if got := told(open(t, d, small)); got != "Area 0[], 0; Records [1[97] 1[98]], 0; Room 124; Round 3" {
				t.Error(got)
			}
			d.Fuse(n)
			e := j.Append([]byte("c"))
			if n <= 4 {
				want(t, "Append", e, api.ErrDown)
				want(t, "Wake", d.Wake(keep), api.OK)
			}
			wanted := "Area 0[], 0; Records [1[97] 1[98]], 0; Room 124; Round 3"
			if n == 4 && keep == 1 || n == 5 {
				wanted = "Area 0[], 0; Records [1[97] 1[98] 1[99]], 0; Room 122; Round 4"
			}
			if got := told(open(t, d, small)); got != wanted {
				t.Errorf("fuse %d, keep %d: %s", n, keep, got)
			}
		}
	}
}

// P5.1 to P5.5: rows of all calls, with crashes, tell what the chapter's words say.
func TestRowsOfCalls(t *testing.T) {
	for seed := range int64(60) {
		r := rand.New(rand.NewSource(seed))
		s := api.Shape{Log: 1 + r.Intn(6), Area: 1 + r.Intn(5), Data: 1 + r.Intn(3)}
		d, j, p := formatted(t, s)
		for range 150 {
			x := deed{r.Intn(5) == 0, r.Int(), r.Intn(64)}
			if x.turns {
				x.many = r.Intn(64*s.Area + 9)
			}
			before := p.clone()
			e := x.plainly(t, p)
			if r.Intn(4) > 0 {
				want(t, "a deed", x.on(j), e)
				p.wantAlike(t, d, j)
				continue
			}
			d.Fuse(1 + r.Intn(9))
			got := x.on(j)
			if !d.Stat().Down {
				want(t, "a deed", got, e)
				d.Crash()
			}
			want(t, "Wake", d.Wake(int(r.Uint64())), api.OK)
			j = open(t, d, s)
			if got == api.ErrDown && before.alike(j) {
				p = before
			}
			// Bytes that do not count may be those of a deed that was lost.
			p.all = d.Kept()
			p.wantAlike(t, d, j)
			if t.Failed() {
				t.Fatalf("row %d", seed)
			}
		}
	}
}
