package blob_test

import (
	"fmt"
	"math"
	"math/rand"
	"slices"
	"testing"

	"spence/api"
	"spence/blob"
)

// wrongShapes are not right; sums of some turn round to what would be few sectors.
var wrongShapes = []api.Shape{
	{},
	{Log: 1, Area: 1},
	{Log: 1, Data: 1},
	{Area: 1, Data: 1},
	{Log: 1, Area: 1, Data: 8189},
	{Log: 8189, Area: 1, Data: 1},
	{Log: 1, Area: 4095, Data: 1},
	{Log: -1, Area: 1, Data: 9},
	{Log: 1, Area: -1, Data: 9},
	{Log: 1, Area: 1, Data: -9},
	{Log: 1, Area: 1, Data: math.MinInt},
	{Log: 1, Area: 1, Data: math.MaxInt},
	{Log: math.MaxInt, Area: math.MaxInt, Data: 9},
	{Log: 1, Area: 1 << 62, Data: 9},
}

// wrongRuns are not right by small, or not apart.
func wrongRuns() map[string][]api.Run {
	l := map[string][]api.Run{
		"zero values":                     runs(0, 0),
		"none of a sector":                runs(5, 0),
		"less than none":                  runs(5, -1),
		"less than none, from the end on": runs(12, -1),
		"ahead of the first":              runs(-1, 1),
		"from ahead of the first on":      runs(-1, 2),
		"behind the last":                 runs(12, 1),
		"none, behind the last":           runs(12, 0),
		"one more than there are":         runs(0, 13),
		"one more behind the last":        runs(11, 2),
		"far behind":                      runs(8187, 1),
		"the same twice":                  runs(3, 1, 3, 1),
		"all, and the first":              runs(0, 12, 0, 1),
		"all, and the last":               runs(0, 12, 11, 1),
		"the last sector of another one":  runs(2, 3, 4, 2),
		"the first sector of another one": runs(4, 2, 2, 3),
		"amid another one":                runs(2, 6, 4, 1),
		"around another one":              runs(4, 1, 2, 6),
		"the first and the third":         runs(0, 2, 5, 2, 1, 1),
		"a wrong one last":                runs(0, 2, 5, 2, 8, 0),
		"a wrong one first":               runs(-1, 1, 0, 2, 5, 2),
		"a wrong one amid others":         runs(0, 2, 9, 4, 5, 2),
		"one less, and one more":          runs(0, 13, 12, -1),
		"ahead, and far behind":           runs(math.MinInt, math.MaxInt),
	}
	for _, n := range []int{math.MinInt, math.MinInt + 1, math.MaxInt - 1, math.MaxInt} {
		l[fmt.Sprintf("at %d", n)] = runs(n, 1)
		l[fmt.Sprintf("so many: %d", n)] = runs(1, n)
		l[fmt.Sprintf("so many as the place: %d", n)] = runs(n, n)
		l[fmt.Sprintf("behind another one: %d", n)] = runs(0, 2, 4, n)
	}
	return l
}

// rightRuns are right by small, and apart, with how many sectors they leave.
var rightRuns = []struct {
	l    []api.Run
	free int
}{
	{nil, 12},
	{runs(0, 1), 11},
	{runs(11, 1), 11},
	{runs(0, 12), 0},
	{runs(0, 11), 1},
	{runs(1, 11), 1},
	{runs(3, 4), 8},
	{runs(0, 6, 6, 6), 0},
	{runs(6, 6, 0, 6), 0},
	{runs(7, 2, 0, 1, 3, 3), 6},
	{runs(11, 1, 0, 1, 10, 1, 1, 1), 8},
	{runs(11, 1, 10, 1, 9, 1, 8, 1, 7, 1, 6, 1, 5, 1, 4, 1, 3, 1, 2, 1, 1, 1, 0, 1), 0},
}

// P7.1: so many sectors as bytes fill, the last one perhaps in part; none of no bytes, or fewer.
func TestNeed(t *testing.T) {
	for _, c := range [][2]int{
		{0, 0}, {1, 1}, {2, 1}, {63, 1}, {64, 1}, {65, 2}, {127, 2}, {128, 2}, {129, 3},
		{4096, 64}, {4097, 65}, {64 * 8188, 8188}, {1 << 40, 1 << 34}, {1<<40 + 1, 1<<34 + 1},
		{-1, 0}, {-63, 0}, {-64, 0}, {-65, 0}, {-1000, 0}, {math.MinInt, 0}, {math.MinInt + 1, 0},
		{math.MaxInt, 1 << 57}, {math.MaxInt - 63, 1<<57 - 1}, {math.MaxInt - 62, 1 << 57},
	} {
		if got := blob.Need(c[0]); got != c[1] {
			t.Errorf("%d bytes: %d sectors, not %d", c[0], got, c[1])
		}
	}
	for many := -200; many < 2000; many++ {
		if got := blob.Need(many); got != plainNeed(many) {
			t.Errorf("%d bytes: %d sectors", many, got)
		}
	}
}

// P7.1, R6: runs that are right and apart, in any order, and how many sectors they leave.
func TestApart(t *testing.T) {
	for _, c := range rightRuns {
		free, e := blob.Free(small, c.l...)
		if !blob.Apart(small, c.l...) || free != c.free || e != api.OK {
			t.Errorf("%v: %v, %d, %d", c.l, blob.Apart(small, c.l...), free, e)
		}
	}
	if free, e := blob.Free(small, []api.Run{}...); !blob.Apart(small, []api.Run{}...) || free != 12 || e != api.OK {
		t.Errorf("of an empty list: %d, %d", free, e)
	}
}

// P7.1, P7.2: runs that are not right, or not apart.
func TestNotApart(t *testing.T) {
	for what, l := range wrongRuns() {
		if blob.Apart(small, l...) {
			t.Errorf("%s are apart: %v", what, l)
		}
		if free, e := blob.Free(small, l...); free != 0 || e != api.ErrArg {
			t.Errorf("%s leave: %d, %d", what, free, e)
		}
		for _, many := range []int{-1, 0, 1, 13} {
			if found, e := blob.Find(small, many, l...); len(found) != 0 || e != api.ErrArg {
				t.Errorf("%s, Find of %d: %v, %d", what, many, found, e)
			}
		}
	}
}

// P7.1, P7.2: of a shape that is not right there is nothing, not even of no runs.
func TestWrongShapes(t *testing.T) {
	for _, s := range wrongShapes {
		for _, l := range [][]api.Run{nil, runs(0, 1), runs(0, 0), runs(5, math.MaxInt)} {
			if blob.Apart(s, l...) {
				t.Errorf("%+v: %v are apart", s, l)
			}
			if free, e := blob.Free(s, l...); free != 0 || e != api.ErrArg {
				t.Errorf("%+v, %v: %d, %d", s, l, free, e)
			}
			for _, many := range []int{0, 1, math.MaxInt} {
				if found, e := blob.Find(s, many, l...); len(found) != 0 || e != api.ErrArg {
					t.Errorf("%+v, %v, Find of %d: %v, %d", s, l, many, found, e)
				}
			}
		}
	}
}

// P7.1, P7.2: only how many sectors of data a shape has counts, as long as it is right; of the least and of the most.
func TestShapes(t *testing.T) {
	for _, s := range []api.Shape{{Log: 1, Area: 1, Data: 1}, {Log: 8188, Area: 1, Data: 1}, {Log: 2, Area: 4094, Data: 1}} {
		free, e := blob.Free(s)
		if !blob.Apart(s, runs(0, 1)...) || blob.Apart(s, runs(1, 1)...) || blob.Apart(s, runs(0, 2)...) || free != 1 || e != api.OK {
			t.Errorf("%+v: %d, %d", s, free, e)
		}
		if found, e := blob.Find(s, 1); !sameRuns(found, runs(0, 1)) || e != api.OK {
			t.Errorf("%+v: %v, %d", s, found, e)
		}
	}
	s := api.Shape{Log: 1, Area: 1, Data: 8188}
	if !blob.Apart(s, runs(8187, 1, 0, 8187)...) || blob.Apart(s, runs(8187, 2)...) || blob.Apart(s, runs(8188, 1)...) {
		t.Error("the last sector of the most")
	}
	if found, e := blob.Find(s, 8186, runs(4000, 1, 63, 1)...); !sameRuns(found, runs(0, 63, 64, 3936, 4001, 4187)) || e != api.OK {
		t.Errorf("the most but two: %v, %d", found, e)
	}
	if found, e := blob.Find(s, 8187, runs(4000, 1, 63, 1)...); len(found) != 0 || e != api.ErrFull {
		t.Errorf("one more than are free: %v, %d", found, e)
	}
	var l []api.Run
	for at := 8187; at >= 0; at -= 2 {
		l = append(l, api.Run{At: at, Many: 1})
	}
	if free, e := blob.Free(s, l...); free != 4094 || e != api.OK {
		t.Errorf("each second one: %d, %d", free, e)
	}
	if found, e := blob.Find(s, 4094, l...); len(found) != 4094 || found[0] != (api.Run{At: 0, Many: 1}) || found[4093] != (api.Run{At: 8186, Many: 1}) || e != api.OK {
		t.Errorf("each other one: %d runs, %d", len(found), e)
	}
	if blob.Apart(s, append(l, api.Run{At: 1, Many: 1})...) {
		t.Error("each second one, and the second once more, are apart")
	}
}

// P7.2: the first free sectors, in order, in runs that are as long as they can be.
func TestFind(t *testing.T) {
	for _, c := range []struct {
		many  int
		held  []api.Run
		found []api.Run
		e     api.Errno
	}{
		{0, nil, nil, api.OK},
		{1, nil, runs(0, 1), api.OK},
		{12, nil, runs(0, 12), api.OK},
		{13, nil, nil, api.ErrFull},
		{math.MaxInt, nil, nil, api.ErrFull},
		{-1, nil, nil, api.ErrArg},
		{math.MinInt, nil, nil, api.ErrArg},
		{0, runs(0, 12), nil, api.OK},
		{1, runs(0, 12), nil, api.ErrFull},
		{-1, runs(0, 12), nil, api.ErrArg},
		{1, runs(0, 11), runs(11, 1), api.OK},
		{2, runs(0, 11), nil, api.ErrFull},
		{1, runs(1, 11), runs(0, 1), api.OK},
		{3, runs(3, 1), runs(0, 3), api.OK},
		{4, runs(3, 1), runs(0, 3, 4, 1), api.OK},
		{11, runs(3, 1), runs(0, 3, 4, 8), api.OK},
		// What is too short is taken, too: the first ones, not those that would be one run.
		{3, runs(1, 1, 3, 1), runs(0, 1, 2, 1, 4, 1), api.OK},
		{5, runs(5, 3, 0, 1), runs(1, 4, 8, 1), api.OK},
		{6, runs(11, 1, 0, 1, 10, 1, 1, 1, 5, 1), runs(2, 3, 6, 3), api.OK},
		// Runs that touch are no gap.
		{4, runs(2, 2, 4, 2), runs(0, 2, 6, 2), api.OK},
		{4, runs(4, 2, 2, 2), runs(0, 2, 6, 2), api.OK},
	} {
		found, e := blob.Find(small, c.many, c.held...)
		if !sameRuns(found, c.found) || e != c.e {
			t.Errorf("%d, held %v: %v, %d, not %v, %d", c.many, c.held, found, e, c.found, c.e)
		}
	}
}

// P7.2, the chapter's example.
func TestFindExample(t *testing.T) {
	found, e := blob.Find(api.Shape{Log: 1, Area: 1, Data: 5}, 3, api.Run{At: 1, Many: 2})
	if !sameRuns(found, runs(0, 1, 3, 2)) || e != api.OK {
		t.Errorf("%v, %d", found, e)
	}
}

// heldBy are the sectors whose bits are set, as runs of one each, in an order by chance, some joined.
func heldBy(bits, data int, r *rand.Rand) []api.Run {
	var l []api.Run
	for at := range data {
		last := len(l) - 1
		switch {
		case bits>>at&1 == 0:
		case last >= 0 && l[last].At+l[last].Many == at && r.Intn(2) == 0:
			l[last].Many++
		default:
			l = append(l, api.Run{At: at, Many: 1})
		}
	}
	r.Shuffle(len(l), func(i, k int) { l[i], l[k] = l[k], l[i] })
	return l
}

// wantPlain asks that all calls of these runs tell what the chapter's words say.
func wantPlain(t *testing.T, data, many int, l []api.Run) {
	t.Helper()
	s := api.Shape{Log: 3, Area: 2, Data: data}
	held, ok := plainHeld(data, l)
	free, e := 0, api.ErrArg
	if ok {
		e = api.OK
		for _, is := range held {
			if !is {
				free++
			}
		}
	}
	if got, f := blob.Free(s, l...); got != free || f != e || blob.Apart(s, l...) != ok {
		t.Errorf("data %d, %v: %d, %d, not %d, %d", data, l, got, f, free, e)
	}
	found, e := plainFind(data, many, l)
	if got, f := blob.Find(s, many, l...); !sameRuns(got, found) || f != e {
		t.Errorf("data %d, %d sectors, %v: %v, %d, not %v, %d", data, many, l, got, f, found, e)
	}
}

// P7.1, P7.2: whichever of some sectors are held, and however many are asked for.
func TestFindEach(t *testing.T) {
	r := rand.New(rand.NewSource(1))
	for data := 1; data <= 8; data++ {
		for bits := range 1 << data {
			for many := -1; many <= data+1; many++ {
				wantPlain(t, data, many, heldBy(bits, data, r))
			}
		}
	}
}

// P7.1, P7.2: rows of runs by chance, right ones and wrong ones.
func TestFindByChance(t *testing.T) {
	r := rand.New(rand.NewSource(2))
	for range 5000 {
		data := 1 + r.Intn(300)
		var l []api.Run
		for range r.Intn(8) {
			x := api.Run{At: r.Intn(data), Many: 1 + r.Intn(1+data/8)}
			if _, ok := plainHeld(data, append(slices.Clone(l), x)); ok || r.Intn(12) == 0 {
				l = append(l, x)
			}
		}
		wantPlain(t, data, r.Intn(data+2), l)
	}
}

// R3, R4: what is held is not changed, and each answer is memory of its own, alike each time.
func TestFindLeavesHeld(t *testing.T) {
	held := runs(7, 2, 0, 1, 3, 3)
	was := slices.Clone(held)
	first, e := blob.Find(small, 5, held...)
	want(t, "Find", e, api.OK)
	wanted := runs(1, 2, 6, 1, 9, 2)
	if !sameRuns(first, wanted) {
		t.Errorf("Find: %v", first)
	}
	for i := range first {
		first[i] = api.Run{At: 99, Many: 99}
	}
	for range 20 {
		if again, e := blob.Find(small, 5, held...); !sameRuns(again, wanted) || e != api.OK {
			t.Errorf("Find once more: %v, %d", again, e)
		}
	}
	blob.Apart(small, held...)
	blob.Free(small, held...)
	if !sameRuns(held, was) {
		t.Errorf("what is held is %v", held)
	}
	// Nor is what lies behind it in its memory.
	room := append(slices.Clone(held), runs(5, 5)...)
	blob.Find(small, 5, room[:3]...)
	if room[3] != (api.Run{At: 5, Many: 5}) {
		t.Errorf("behind what is held: %v", room[3])
	}
}
