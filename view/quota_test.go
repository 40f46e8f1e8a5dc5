package view_test

import (
	"math"
	"math/rand"
	"slices"
	"testing"

	"spence/api"
	"spence/view"
)

// most is the greatest quota that is right.
var most = api.Quota{Bytes: 150 * 4096, Objects: 150, Roots: 100, Notes: 400}

// wrongQuotas are right but for one number.
func wrongQuotas() []api.Quota {
	var l []api.Quota
	for _, low := range []int{-1, -2, -64, math.MinInt, math.MinInt + 1} {
		l = append(l, api.Quota{Bytes: low}, api.Quota{Objects: low}, api.Quota{Roots: low}, api.Quota{Notes: low})
	}
	for _, more := range []int{1, 2, 1000000, 1 << 32, math.MaxInt - 1000000} {
		for i := range 4 {
			q := most
			*[]*int{&q.Bytes, &q.Objects, &q.Roots, &q.Notes}[i] += more
			l = append(l, q)
		}
	}
	return l
}

// P14.1: Right says whether a quota is right: each number from 0 to its most.
func TestRight(t *testing.T) {
	for _, q := range []api.Quota{{}, most, {Bytes: 1}, {Objects: 1}, {Roots: 1}, {Notes: 1}, {Bytes: most.Bytes}, {Objects: 150}, {Roots: 100}, {Notes: 400}, {Bytes: 3000, Objects: 7, Roots: 2, Notes: 12}} {
		if !view.Right(q) {
			t.Errorf("%v is not right", q)
		}
	}
	for _, q := range wrongQuotas() {
		if view.Right(q) {
			t.Errorf("%v is right", q)
		}
	}
}

// wantFits asks that Fits tells that.
func wantFits(t *testing.T, s api.Shape, w api.Errno, quotas ...api.Quota) {
	t.Helper()
	if e := view.Fits(s, quotas...); e != w {
		t.Errorf("Fits of %v, %v: error %d, not %d", s, quotas, e, w)
	}
}

// P14.1: quotas fit a shape that has just what they need at most; of a sector fewer, of the area or of the data, they do not.
func TestFits(t *testing.T) {
	for _, c := range []struct {
		area, data int
		quotas     []api.Quota
	}{
		{4, 64, []api.Quota{{}}},                                                 // 200 bytes of the area
		{5, 64, []api.Quota{{}, {}}},                                             // 300
		{15, 64, slices.Repeat([]api.Quota{{}}, 8)},                              // 900
		{5, 64, []api.Quota{{Roots: 1}}},                                         // 300
		{37, 64, []api.Quota{{Notes: 1}}},                                        // 2330
		{41, 65, []api.Quota{{Objects: 1}}},                                      // 2600
		{4, 64, []api.Quota{{Bytes: 63}}},                                        // rounded down
		{4, 65, []api.Quota{{Bytes: 64}}},                                        // a sector
		{4, 65, []api.Quota{{Bytes: 127}}},                                       // one still
		{5, 64, []api.Quota{{Bytes: 63}, {Bytes: 63}}},                           // rounded of each user
		{5, 66, []api.Quota{{Bytes: 127}, {Bytes: 127}}},                         // likewise
		{21, 64, []api.Quota{{Roots: 10}, {}}},                                   // 1300
		{25, 64, []api.Quota{{Roots: 14}}},                                       // 1600: just 25 sectors
		{27, 64, []api.Quota{{Roots: 15}}},                                       // 1700
		{79, 97, []api.Quota{{Objects: 2, Bytes: 2000}}},                         // 5000
		{113, 64, []api.Quota{{Notes: 3, Roots: 4}, {}, {}}},                     // 7190
		{106, 81, []api.Quota{{Objects: 1, Bytes: 1024}, {Notes: 1, Roots: 19}}}, // 6730
	} {
		wantFits(t, api.Shape{Log: 1, Area: c.area, Data: c.data}, api.OK, c.quotas...)
		wantFits(t, api.Shape{Log: 3, Area: c.area + 1, Data: c.data}, api.OK, c.quotas...)
		wantFits(t, api.Shape{Log: 3, Area: c.area, Data: c.data + 1}, api.OK, c.quotas...)
		wantFits(t, api.Shape{Log: 1, Area: c.area - 1, Data: c.data}, api.ErrConfig, c.quotas...)
		wantFits(t, api.Shape{Log: 1, Area: c.area, Data: c.data - 1}, api.ErrConfig, c.quotas...)
		wantFits(t, api.Shape{Log: 1, Area: c.area - 1, Data: c.data + 100}, api.ErrConfig, c.quotas...)
		wantFits(t, api.Shape{Log: 1, Area: c.area + 100, Data: c.data - 1}, api.ErrConfig, c.quotas...)
	}
}

// P14.1: a shape may be right, and yet no quotas but small ones fit it.
func TestFitsGreat(t *testing.T) {
	// 360000 bytes of objects' rows, 10000 of roots', 852000 of notes' are more than any area has.
	great := api.Shape{Log: 1, Area: 4000, Data: 190}
	for _, q := range []api.Quota{most, {Notes: 400}, {Objects: 150}} {
		wantFits(t, great, api.ErrConfig, q)
	}
	wantFits(t, great, api.OK, api.Quota{Notes: 120}) // 255800 bytes: 3997 sectors
	wantFits(t, great, api.ErrConfig, api.Quota{Notes: 121})
	wantFits(t, great, api.OK, slices.Repeat([]api.Quota{{Notes: 14, Bytes: 1023}}, 8)...)        // 239460
	wantFits(t, great, api.ErrConfig, slices.Repeat([]api.Quota{{Notes: 15, Bytes: 1023}}, 8)...) // 256500
	wantFits(t, api.Shape{Log: 1, Area: 10, Data: 8170}, api.OK, api.Quota{Bytes: 64 * 8106})
	wantFits(t, api.Shape{Log: 1, Area: 10, Data: 8170}, api.ErrConfig, api.Quota{Bytes: 64 * 8107})
	wantFits(t, api.Shape{Log: 1, Area: 10, Data: 8170}, api.ErrConfig, slices.Repeat([]api.Quota{{Bytes: most.Bytes}}, 8)...)
}

// P14.1: Fits tells ErrArg of a shape that is not right, of no quotas, too many, and such as are not right, ahead of ErrConfig.
func TestFitsWrong(t *testing.T) {
	good := api.Shape{Log: 1, Area: 15, Data: 64}
	for _, s := range []api.Shape{{}, {Log: 0, Area: 15, Data: 64}, {Log: 1, Area: 0, Data: 64}, {Log: 1, Area: 15, Data: 0}, {Log: -1, Area: 15, Data: 64}, {Log: 1, Area: 15, Data: -64}, {Log: 1, Area: 4000, Data: 191}, {Log: 1, Area: 15, Data: 8193}, {Log: math.MaxInt, Area: math.MaxInt, Data: math.MaxInt}, {Log: math.MinInt, Area: math.MinInt, Data: math.MinInt}} {
		wantFits(t, s, api.ErrArg, api.Quota{})
		wantFits(t, s, api.ErrArg)
		wantFits(t, s, api.ErrArg, most)
	}
	wantFits(t, good, api.ErrArg)
	wantFits(t, good, api.ErrArg, []api.Quota{}...)
	wantFits(t, good, api.OK, slices.Repeat([]api.Quota{{}}, 8)...)
	wantFits(t, api.Shape{Log: 1, Area: 100, Data: 1000}, api.ErrArg, slices.Repeat([]api.Quota{{}}, 9)...)
	wantFits(t, good, api.ErrArg, slices.Repeat([]api.Quota{most}, 9)...)
	wantFits(t, good, api.ErrConfig, most)
	for _, q := range wrongQuotas() {
		wantFits(t, good, api.ErrArg, q)
		wantFits(t, good, api.ErrArg, api.Quota{}, q)
		wantFits(t, good, api.ErrArg, q, api.Quota{})
		wantFits(t, good, api.ErrArg, most, q, most)
		wantFits(t, api.Shape{Log: 1, Area: 1, Data: 1}, api.ErrArg, api.Quota{}, q)
	}
}

// P14.1: what quotas need at most is, of quotas and shapes by chance, the sum of the chapter's numbers.
func TestFitsByChance(t *testing.T) {
	r := rand.New(rand.NewSource(14))
	told := map[api.Errno]int{}
	for range 20000 {
		var l []api.Quota
		area, data := 100, 64
		for range 1 + r.Intn(8) {
			q := api.Quota{Bytes: r.Intn(30000), Objects: r.Intn(8), Roots: r.Intn(60), Notes: r.Intn(8)}
			l = append(l, q)
			area += 2400*q.Objects + 100*q.Roots + 2130*q.Notes + 100
			data += q.Bytes/64 + q.Objects
		}
		s := api.Shape{Log: 1, Area: max(1, area/64+r.Intn(4)-1), Data: max(1, data+r.Intn(4)-1)}
		w := api.OK
		switch {
		case 1+s.Log+2*s.Area+s.Data > 8192:
			w = api.ErrArg
		case s.Area*64 < area || s.Data < data:
			w = api.ErrConfig
		}
		wantFits(t, s, w, l...)
		told[w]++
	}
	for _, e := range []api.Errno{api.OK, api.ErrArg, api.ErrConfig} {
		if told[e] < 50 {
			t.Errorf("error %d: %d times", e, told[e])
		}
	}
}

// P14.1, P14.2: New has as many users as quotas, from 1 to 8, each of its own, without roots and notes.
func TestNew(t *testing.T) {
	all := []api.Quota{most, {}, {Bytes: 1}, {Objects: 2}, {Roots: 3}, {Notes: 4}, {Bytes: 5, Objects: 6, Roots: 7, Notes: 8}, most}
	for many := 1; many <= 8; many++ {
		v := viewOf(t, all[:many]...)
		plainOf(all[:many]...).wantAlike(t, "New", v, "a")
	}
}

// P14.1: New tells ErrArg, and no view, of no quotas, nine, and such as are not right.
func TestNewWrong(t *testing.T) {
	wrong := [][]api.Quota{nil, {}, slices.Repeat([]api.Quota{{}}, 9), slices.Repeat([]api.Quota{most}, 9), make([]api.Quota, 1000)}
	for _, q := range wrongQuotas() {
		wrong = append(wrong, []api.Quota{q}, []api.Quota{{}, q}, []api.Quota{q, most}, append(slices.Repeat([]api.Quota{{}}, 7), q))
	}
	for _, l := range wrong {
		if v, e := view.New(l...); v != nil || e != api.ErrArg {
			t.Errorf("New of %v: %v, error %d", l, v, e)
		}
	}
}

// P14.2: Quota and Room tell ErrUser of a user that there is not.
func TestNoUser(t *testing.T) {
	for many := 1; many <= 8; many++ {
		v := viewOf(t, slices.Repeat([]api.Quota{most}, many)...)
		for _, who := range append(noUsers, many+1) {
			if 0 < who && who <= many {
				continue
			}
			if q, e := v.Quota(who); q != (api.Quota{}) || e != api.ErrUser {
				t.Errorf("Quota of %d: %v, error %d", who, q, e)
			}
			wantError(t, "Room", v.Room(who, 0, 0), api.ErrUser)
			wantError(t, "Room of too much", v.Room(who, math.MaxInt, math.MaxInt), api.ErrUser)
		}
		_, e := v.Quota(many)
		wantError(t, "the last user's quota", e, api.OK)
	}
}

// P14.2: Room tells ErrQuota of more objects, or more bytes, than one's quota, whatever others' are.
func TestRoom(t *testing.T) {
	v := viewOf(t, api.Quota{Bytes: 100, Objects: 3}, api.Quota{Bytes: 2, Objects: 50}, api.Quota{}, most)
	for _, c := range []struct {
		who, objects, many int
		e                  api.Errno
	}{
		{1, 0, 0, api.OK}, {1, 3, 100, api.OK}, {1, 4, 100, api.ErrQuota}, {1, 3, 101, api.ErrQuota}, {1, 4, 101, api.ErrQuota}, {1, 4, 0, api.ErrQuota}, {1, 0, 101, api.ErrQuota}, {1, 2, 99, api.OK},
		{2, 50, 2, api.OK}, {2, 51, 2, api.ErrQuota}, {2, 50, 3, api.ErrQuota}, {2, 3, 100, api.ErrQuota},
		{3, 0, 0, api.OK}, {3, 1, 0, api.ErrQuota}, {3, 0, 1, api.ErrQuota},
		{4, 150, 150 * 4096, api.OK}, {4, 151, 0, api.ErrQuota}, {4, 0, 150*4096 + 1, api.ErrQuota}, {4, math.MaxInt, math.MaxInt, api.ErrQuota},
		{1, -1, -1, api.OK}, {3, math.MinInt, math.MinInt, api.OK}, {3, -1, 1, api.ErrQuota}, {3, 1, -1, api.ErrQuota},
	} {
		if e := v.Room(c.who, c.objects, c.many); e != c.e {
			t.Errorf("Room of %d, %d, %d: error %d, not %d", c.who, c.objects, c.many, e, c.e)
		}
	}
}
