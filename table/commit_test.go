package table_test

import (
	"bytes"
	"fmt"
	"slices"
	"strings"
	"testing"

	"spence/api"
	"spence/code"
	"spence/log"
	"spence/table"
)

// keys are changes that put so many short keys, from a first one on.
func keys(first, many int) []api.Change {
	var l []api.Change
	for i := range many {
		l = append(l, puts(fmt.Sprintf("%06d", first+i)))
	}
	return l
}

// commit does a Commit on both, and asks that they tell the same, and have the same behind it.
func commit(t *testing.T, what string, x *table.Table, p *plain, e api.Errno, l ...api.Change) {
	t.Helper()
	want(t, what, x.Commit(l...), e)
	want(t, what+", after the chapter", p.commit(l...), e)
	if !p.has(x) {
		t.Errorf("%s: it has other rows: %s, not %s", what, told(x.Rows("")), told(p.rows))
	}
}

// P6.2: each change is done, in order.
func TestCommit(t *testing.T) {
	d, x, p := formatted(t, great)
	for _, l := range [][]api.Change{
		{puts("b", 2)},
		{puts("a", 1), puts("c", 3)},
		{puts("b", 5, 6)},
		{puts("b")},
		{goes("c")},
		{goes("c")},
		{goes("no such key")},
		{puts("d", 4), goes("d")},
		{goes("a"), puts("a", 9)},
		{puts("a", 1), puts("a", 2), puts("a", 3)},
		{puts(strings.Repeat("k", 64), filled(1, 2048)...)},
		{goes(strings.Repeat("k", 64))},
		{puts("\x00"), puts("\xff", 1), puts("é", 2)},
		{goes("a"), goes("b"), goes("\x00"), goes("\xff"), goes("é")},
	} {
		commit(t, "Commit", x, p, api.OK, l...)
		p.wantAlike(t, d, x)
	}
}

// P6.2, R6: no changes are done, and nothing is written.
func TestCommitNothing(t *testing.T) {
	d, x, p := formatted(t, small)
	commit(t, "Commit", x, p, api.OK, puts("a", 1))
	stat := d.Stat()
	commit(t, "Commit of nothing", x, p, api.OK)
	commit(t, "Commit of nil", x, p, api.OK, []api.Change(nil)...)
	commit(t, "Commit of an empty list", x, p, api.OK, []api.Change{}...)
	if d.Stat() != stat {
		t.Error("something is written")
	}
	p.wantAlike(t, d, x)
}

// P6.2: what is no right change, whereever it stands; nothing is done.
func TestCommitWrong(t *testing.T) {
	d, x, p := formatted(t, great)
	commit(t, "Commit", x, p, api.OK, puts("a", 1), puts("b", 2))
	stat := d.Stat()
	long := strings.Repeat("k", 65)
	for _, wrong := range []api.Change{
		puts(""), puts("", 1), goes(""), {},
		puts(long), goes(long), puts(strings.Repeat("k", 1000)),
		puts("c", filled(1, 2049)...), puts("a", filled(1, 100000)...),
		{Key: "a", Val: []byte{1}, Gone: true}, {Key: "c", Val: []byte{0}, Gone: true}, {Key: "a", Val: filled(1, 2049), Gone: true},
	} {
		commit(t, "a wrong one", x, p, api.ErrArg, wrong)
		commit(t, "a wrong one last", x, p, api.ErrArg, puts("a", 9), goes("b"), puts("c", 3), wrong)
		commit(t, "a wrong one first", x, p, api.ErrArg, wrong, puts("a", 9))
	}
	if d.Stat() != stat {
		t.Error("something is written")
	}
	commit(t, "Gone with an empty value", x, p, api.OK, api.Change{Key: "a", Val: []byte{}, Gone: true})
	p.wantAlike(t, d, x)
}

// P6.2: 400 changes, and one more; too many are told ahead of wrong ones.
func TestCommitMany(t *testing.T) {
	d, x, p := formatted(t, great)
	commit(t, "401", x, p, api.ErrLong, keys(0, 401)...)
	commit(t, "401 of one key", x, p, api.ErrLong, slices.Repeat([]api.Change{puts("a")}, 401)...)
	commit(t, "401, some wrong", x, p, api.ErrLong, append(keys(0, 400), puts(""))...)
	commit(t, "401, all wrong", x, p, api.ErrLong, make([]api.Change, 401)...)
	commit(t, "400, one wrong", x, p, api.ErrArg, append(keys(0, 399), puts(""))...)
	commit(t, "400", x, p, api.OK, keys(0, 400)...)
	commit(t, "400 of one key", x, p, api.OK, slices.Repeat([]api.Change{puts("a")}, 400)...)
	p.wantAlike(t, d, x)
}

// P6.2: 4000 rows, and one more; only what is behind all of the changes counts.
func TestCommitRows(t *testing.T) {
	d, x, p := formatted(t, great)
	for i := range 10 {
		l := keys(400*i, 400)
		want(t, "Commit", x.Commit(l...), api.OK)
		p.rows = append(p.rows, rows(4000)[400*i:400*i+400]...)
	}
	p.wantRows(t, x)
	p.wantRows(t, open(t, d, great))
	stat := d.Stat()
	if e := x.Commit(puts("x")); e != api.ErrFull {
		t.Errorf("a row more: %d", e)
	}
	if e := x.Commit(goes("000007"), puts("x"), puts("y")); e != api.ErrFull {
		t.Errorf("a row more: %d", e)
	}
	if e := x.Commit(puts("x"), puts("")); e != api.ErrArg {
		t.Errorf("a row more, and a wrong change: %d", e)
	}
	if e := x.Commit(keys(4000, 401)...); e != api.ErrLong {
		t.Errorf("a row more, and too many changes: %d", e)
	}
	if d.Stat() != stat || !p.has(x) {
		t.Error("something is done beside an error")
	}
	want(t, "a row that is there", x.Commit(puts("000009")), api.OK)
	want(t, "a row that comes, and one that goes", x.Commit(puts("x"), goes("000000")), api.OK)
	p.rows = append(slices.Clone(p.rows[1:]), api.Row{Key: "x"})
	p.wantRows(t, x)
	p.wantRows(t, open(t, d, great))
}

// P6.2: a table as long as the area, and one byte longer; where both are asked, the wrong change is told first.
func TestCommitLength(t *testing.T) {
	for _, s := range []api.Shape{small, {Log: 1, Area: 3, Data: 1}, {Log: 50, Area: 3, Data: 1}} {
		d, x, p := formatted(t, s)
		just := filling(t, 192)
		more := append(bytes.Clone(just.Val), 1)
		commit(t, "a byte more", x, p, api.ErrFull, puts("f", more...))
		commit(t, "a byte more, and a wrong change", x, p, api.ErrArg, puts("f", more...), puts(""))
		commit(t, "just as long", x, p, api.OK, puts("f", just.Val...))
		commit(t, "another row", x, p, api.ErrFull, puts("g"))
		commit(t, "a longer key", x, p, api.ErrFull, goes("f"), puts("ff", just.Val...))
		commit(t, "one byte more, and one fewer", x, p, api.OK, goes("f"), puts("ff", just.Val[1:]...))
		p.wantAlike(t, d, x)
		commit(t, "longer amid it, not behind it", x, p, api.OK, puts("f", more...), puts("g", more...), goes("f"), goes("g"))
		p.wantAlike(t, d, x)
		commit(t, "nothing is left", x, p, api.OK, goes("ff"))
		p.wantAlike(t, d, x)
	}
}

// P6.2: the number of rows has bytes of its own: two, from 128 rows on.
func TestCommitLengthOfNumber(t *testing.T) {
	s := api.Shape{Log: 100, Area: 17, Data: 1}
	d, x, p := formatted(t, s)
	// 127 rows of 8 bytes each and one of 71 are, with their number, 17 sectors and 1 byte; as long as there is one row fewer the number is a byte shorter.
	commit(t, "127 rows", x, p, api.OK, keys(0, 127)...)
	if _, many := x.Size(); many != 1+127*8 {
		t.Errorf("%d bytes", many)
	}
	left := 64*17 - 127*8
	commit(t, "a byte too long", x, p, api.ErrFull, puts("x", filled(1, left-4)...))
	commit(t, "just as long", x, p, api.OK, puts("x", filled(1, left-5)...))
	if n, many := x.Size(); n != 128 || many != 64*17 {
		t.Errorf("%d rows, %d bytes", n, many)
	}
	p.wantAlike(t, d, x)
}

// P6.2: changes whose text has just the log's room are appended; of a byte more all rows are written to the other area.
func TestCommitRoom(t *testing.T) {
	for _, extra := range []int{0, 1} {
		d, x, p := formatted(t, small)
		commit(t, "Commit", x, p, api.OK, puts("a", filled(1, 20)...))
		// Ahead of the value stand the record's length, 1 change, 0, the key's text, the value's length.
		commit(t, "Commit", x, p, api.OK, puts("b", filled(2, p.room()-6+extra)...))
		if (len(p.records) == 0) != (extra == 1) {
			t.Fatal("the sample is wrong")
		}
		p.wantAlike(t, d, x)
		if extra == 0 && journal(t, d, small).Room() != 0 {
			t.Error("there is room left")
		}
		commit(t, "Commit", x, p, api.OK, goes("a"))
		p.wantAlike(t, d, x)
	}
}

// P6.2: a record's own length is part of its text: two bytes, from 128 on.
func TestCommitRoomOfLength(t *testing.T) {
	s := api.Shape{Log: 3, Area: 5, Data: 1}
	for many := 100; many <= 192; many++ {
		d, x, p := formatted(t, s)
		commit(t, "Commit", x, p, api.OK, puts("b", filled(2, many)...))
		p.wantAlike(t, d, x)
	}
}

// P6.2: changes that have no room in an empty log, but in an area.
func TestCommitGreat(t *testing.T) {
	s := api.Shape{Log: 1, Area: 1500, Data: 1}
	d, x, p := formatted(t, s)
	for i := range 3 {
		var l []api.Change
		for k := range 40 {
			l = append(l, puts(fmt.Sprintf("%04d", i*20+k), filled(i+k, 1000)...))
		}
		commit(t, "Commit", x, p, api.OK, l...)
		p.wantAlike(t, d, x)
		commit(t, "Commit", x, p, api.OK, goes("0001"), puts("x", byte(i)))
		p.wantAlike(t, d, x)
	}
}

// P6.2: where the journal has no round more, log's error is told, and nothing is another one; the store stays up.
func TestCommitLastRound(t *testing.T) {
	d, x, p := formatted(t, small)
	commit(t, "Commit", x, p, api.OK, puts("a", 1))
	b, _ := (&code.Maker{}).Num(0, 0, 128-journal(t, d, small).Room(), api.MaxNum).Done()
	want(t, "Write", d.Write(0, b), api.OK)
	want(t, "Flush", d.Flush(), api.OK)
	x = open(t, d, small)
	stat := d.Stat()
	for range 2 {
		want(t, "Commit", x.Commit(puts("b", 1)), api.ErrLong)
		want(t, "a long Commit", x.Commit(puts("b", filled(1, 150)...)), api.ErrLong)
		want(t, "a wrong Commit", x.Commit(puts("")), api.ErrArg)
		want(t, "Commit of nothing", x.Commit(), api.OK)
	}
	if d.Stat() != stat {
		t.Error("something is written")
	}
	p.wantAlike(t, d, x)
}

// P6.2: what is done to the device is what log does, and nothing else.
func TestCommitDeeds(t *testing.T) {
	d, x, p := formatted(t, small)
	other := laid(t, small, nil)
	for i := range 20 {
		l := []api.Change{puts(string(rune('a'+i%3)), filled(i, 20+i)...)}
		switches := len(text(changesBytes(l...))) > p.room()
		commit(t, "Commit", x, p, api.OK, l...)
		j := journal(t, other, small)
		if switches {
			want(t, "Switch", j.Switch(tableBytes(p.rows...)), api.OK)
		} else {
			want(t, "Append", j.Append(changesBytes(l...)), api.OK)
		}
		if !bytes.Equal(d.Kept(), other.Kept()) {
			t.Fatalf("%d: other bytes are kept", i)
		}
		if j := journal(t, d, small); j.Round() != i+2 {
			t.Errorf("Round: %d", j.Round())
		}
	}
}

// P6.3: rows whose keys begin so, in order by their keys, byte by byte.
func TestRows(t *testing.T) {
	_, x, p := formatted(t, great)
	all := []string{"b", "a", "ab", "aa", "a\x00", "abc", "é", "\xff", "\xff\xff", "\x00", "A", "~", "a\xff"}
	for i, key := range all {
		commit(t, "Commit", x, p, api.OK, puts(key, byte(i)))
	}
	for _, prefix := range append(all, "", "abcd", "\xc3", "no", "a\x00\x00", strings.Repeat("a", 100)) {
		var l []api.Row
		for _, r := range p.rows {
			if len(r.Key) >= len(prefix) && r.Key[:len(prefix)] == prefix {
				l = append(l, r)
			}
		}
		for range 2 {
			if got := x.Rows(prefix); !slices.EqualFunc(got, l, sameRow) {
				t.Errorf("Rows(%q): %s, not %s", prefix, told(got), told(l))
			}
		}
	}
}

// P6.3: a value, and none.
func TestGet(t *testing.T) {
	_, x, p := formatted(t, great)
	longest := filled(3, 2048)
	commit(t, "Commit", x, p, api.OK, puts("a", 1, 2), puts("empty"), puts(strings.Repeat("k", 64), longest...))
	for key, val := range map[string][]byte{"a": {1, 2}, "empty": nil, strings.Repeat("k", 64): longest} {
		if got, e := x.Get(key); e != api.OK || !bytes.Equal(got, val) {
			t.Errorf("Get(%q): %d, %d", key, got, e)
		}
	}
	for _, key := range []string{"", "b", "A", "aa", "empt", "emptyy", strings.Repeat("k", 63), strings.Repeat("k", 65), "a\x00"} {
		if got, e := x.Get(key); e != api.ErrNone || got != nil {
			t.Errorf("Get(%q): %d, %d", key, got, e)
		}
	}
	commit(t, "Commit", x, p, api.OK, goes("a"))
	if got, e := x.Get("a"); e != api.ErrNone || got != nil {
		t.Errorf("Get of what is gone: %d, %d", got, e)
	}
}

// P6.3: how many rows there are, and bytes of the table; without rows that is the number alone.
func TestSize(t *testing.T) {
	d, x, _ := formatted(t, great)
	for _, c := range []struct {
		l          []api.Change
		rows, many int
	}{
		{nil, 0, 1},
		{[]api.Change{puts("a")}, 1, 4},
		{[]api.Change{puts("bc", 1, 2, 3)}, 2, 11},
		{[]api.Change{puts("a", 1)}, 2, 12},
		{[]api.Change{puts("a", filled(1, 127)...)}, 2, 138},
		{[]api.Change{puts("a", filled(1, 128)...)}, 2, 140},
		{[]api.Change{puts("a", filled(1, 2048)...)}, 2, 2060},
		{[]api.Change{goes("a"), goes("x")}, 1, 8},
		{[]api.Change{goes("bc")}, 0, 1},
		{keys(0, 127), 127, 1 + 127*8},
		{keys(127, 1), 128, 2 + 128*8},
		{[]api.Change{goes("000000")}, 127, 1 + 127*8},
	} {
		want(t, "Commit", x.Commit(c.l...), api.OK)
		for _, y := range []*table.Table{x, open(t, d, great)} {
			if rows, many := y.Size(); rows != c.rows || many != c.many {
				t.Errorf("Size: %d, %d, not %d, %d", rows, many, c.rows, c.many)
			}
		}
	}
}

// R3: no argument is changed or kept.
func TestKeepsNoArgument(t *testing.T) {
	d, x, p := formatted(t, small)
	l := []api.Change{puts("a", 1, 2, 3), goes("b"), puts("c", 4)}
	want(t, "Commit", x.Commit(l...), api.OK)
	if l[0].Key != "a" || !bytes.Equal(l[0].Val, []byte{1, 2, 3}) || l[1].Key != "b" || !l[1].Gone || !bytes.Equal(l[2].Val, []byte{4}) {
		t.Error("an argument is another one")
	}
	p.commit(puts("a", 1, 2, 3), puts("c", 4))
	p.records = [][]byte{changesBytes(puts("a", 1, 2, 3), goes("b"), puts("c", 4))}
	l[0].Val[0], l[2].Val[0], l[1] = 9, 9, puts("x", 1)
	p.wantAlike(t, d, x)
	// Nor of a Commit that is refused.
	l = []api.Change{puts("a", 7), puts("")}
	commit(t, "a wrong Commit", x, p, api.ErrArg, l...)
	l[0].Val[0] = 8
	p.wantAlike(t, d, x)
	val := filled(1, 300)
	commit(t, "a Commit without room", x, p, api.ErrFull, puts("a", val...))
	clear(val)
	p.wantAlike(t, d, x)
}

// R3: what is handed out is new memory.
func TestNewMemory(t *testing.T) {
	d, x, p := formatted(t, small)
	commit(t, "Commit", x, p, api.OK, puts("a", 1, 2, 3), puts("ab", 4, 5))
	val, _ := x.Get("a")
	clear(val)
	_ = append(val, 9)
	l := x.Rows("")
	clear(l[0].Val)
	l[1].Val = append(l[1].Val[:1], 7)
	l[1].Key = "z"
	p.wantAlike(t, d, x)
}

// R4: one thing is answered alike each time.
func TestAlikeEachTime(t *testing.T) {
	var first []byte
	for i := range 8 {
		d, x, p := formatted(t, api.Shape{Log: 1, Area: 40, Data: 1})
		for k := range 3 {
			commit(t, "Commit", x, p, api.OK, keys(100*k, 100)...)
		}
		if i == 0 {
			first = d.Kept()
		}
		if !bytes.Equal(d.Kept(), first) {
			t.Fatal("the same Commits leave other bytes")
		}
	}
}

// P6.2: log.Open tells of a store's device what log's calls have laid.
func TestLogOfStore(t *testing.T) {
	d, x, p := formatted(t, small)
	commit(t, "Commit", x, p, api.OK, puts("a", 1), goes("b"))
	j, e := log.Open(d, small)
	want(t, "log.Open", e, api.OK)
	l, _ := j.Records()
	if len(l) != 1 || !bytes.Equal(l[0], []byte{2, 0, 1, 'a', 1, 1, 1, 1, 'b'}) {
		t.Errorf("Records: %d", l)
	}
	commit(t, "Commit", x, p, api.OK, puts("c", filled(1, 140)...))
	j, e = log.Open(d, small)
	want(t, "log.Open", e, api.OK)
	area, _ := j.Area()
	if !bytes.Equal(area, append([]byte{2, 1, 'a', 1, 1, 1, 'c', 140, 1}, filled(1, 140)...)) {
		t.Errorf("Area: %d", area)
	}
}
