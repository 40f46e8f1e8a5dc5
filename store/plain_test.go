package store_test

import (
	"bytes"
	"slices"
	"strings"

	"spence/api"
	"spence/base"
	"spence/name"
	"spence/pack"
	"spence/store"
	"spence/view"
)

// thing is an object, the bytes that lie there, where, and who holds it.
type thing struct {
	api.Object
	bytes   []byte
	runs    []api.Run
	holders []int
}

// user is what one user has beside objects, in no order.
type user struct {
	quota api.Quota
	roots []view.Root
	notes []api.Row
}

// plain is what a store has, after the chapter's words; it is in no order.
type plain struct {
	shape  api.Shape
	users  []user
	things []thing
}

// written is bytes that a turn writes, and where.
type written struct {
	path  api.Path
	bytes []byte
	runs  []api.Run
}

// plainOf is users of quotas that have nothing.
func plainOf(s api.Shape, quotas ...api.Quota) *plain {
	p := &plain{shape: s}
	for _, q := range quotas {
		p.users = append(p.users, user{quota: q})
	}
	return p
}

// clone is the same, apart from it.
func (p *plain) clone() *plain {
	c := &plain{shape: p.shape, users: slices.Clone(p.users), things: slices.Clone(p.things)}
	for i, u := range c.users {
		c.users[i].roots, c.users[i].notes = slices.Clone(u.roots), slices.Clone(u.notes)
	}
	for i, x := range c.things {
		c.things[i].bytes, c.things[i].runs, c.things[i].holders = bytes.Clone(x.bytes), slices.Clone(x.runs), slices.Clone(x.holders)
	}
	return c
}

// at is the thing of a path; nil, if there is none.
func (p *plain) at(path api.Path) *thing {
	for i := range p.things {
		if p.things[i].Path == path {
			return &p.things[i]
		}
	}
	return nil
}

// has says whether a user holds a path.
func (p *plain) has(path api.Path, who int) bool {
	x := p.at(path)
	return x != nil && slices.Contains(x.holders, who)
}

// hold has a user hold what is there.
func (x *thing) hold(who int) {
	if !slices.Contains(x.holders, who) {
		x.holders = append(x.holders, who)
		slices.Sort(x.holders)
	}
}

// plainSorted are paths in order, each once.
func plainSorted(l []api.Path) []api.Path {
	l = slices.Clone(l)
	slices.SortFunc(l, func(p, q api.Path) int {
		if c := bytes.Compare(p.Hash[:], q.Hash[:]); c != 0 {
			return c
		}
		return strings.Compare(p.Name, q.Name)
	})
	return slices.Compact(l)
}

// of are the paths of what a user holds, in order; of 0: of all.
func (p *plain) of(who int) []api.Path {
	var l []api.Path
	for _, x := range p.things {
		if who == 0 || slices.Contains(x.holders, who) {
			l = append(l, x.Path)
		}
	}
	return plainSorted(l)
}

// sizes are how many objects, and bytes, these are.
func (p *plain) sizes(who int) (objects, many int) {
	for _, path := range p.of(who) {
		objects++
		many += p.at(path).Size
	}
	return objects, many
}

// room says whether a user may have so much more.
func (p *plain) room(who, objects, many int) bool {
	o, b := p.sizes(who)
	q := p.users[who-1].quota
	return o+objects <= q.Objects && b+many <= q.Bytes
}

// closure is that of a path: as long as something in it refers to what is not in it, that is put in.
func (p *plain) closure(from ...api.Path) []api.Path {
	all := plainSorted(from)
	for {
		more := all
		for _, path := range all {
			more = append(more, p.at(path).Refs...)
		}
		more = plainSorted(more)
		if len(more) == len(all) {
			return all
		}
		all = more
	}
}

func (p *plain) add(d store.Deed, w *[]written) (api.Path, api.Errno) {
	if _, e := pack.Open(d.Bytes); e != api.OK {
		return api.Path{}, api.ErrShape
	}
	o, own, e := name.Make(d.Name, d.Bytes, d.Self, d.Of...)
	if e != api.OK {
		return api.Path{}, e
	}
	for _, r := range o.Refs {
		if !p.has(r, d.Who) {
			return api.Path{}, api.ErrRefs
		}
	}
	x := p.at(o.Path)
	if !p.has(o.Path, d.Who) && !p.room(d.Who, 1, o.Size) {
		return api.Path{}, api.ErrQuota
	}
	if x == nil {
		*w = append(*w, written{path: o.Path, bytes: own})
		p.things = append(p.things, thing{Object: o, bytes: own, holders: []int{d.Who}})
		return o.Path, api.OK
	}
	if x.Size != o.Size || x.Self != o.Self || !slices.Equal(x.Refs, o.Refs) || !bytes.Equal(x.bytes, own) {
		return api.Path{}, api.ErrHash
	}
	x.hold(d.Who)
	return o.Path, api.OK
}

func (p *plain) adopt(d store.Deed) (api.Path, api.Errno) {
	if p.at(d.Path) == nil {
		return api.Path{}, api.ErrNone
	}
	objects, many := 0, 0
	l := p.closure(d.Path)
	for _, path := range l {
		if !p.has(path, d.Who) {
			objects++
			many += p.at(path).Size
		}
	}
	if !p.room(d.Who, objects, many) {
		return api.Path{}, api.ErrQuota
	}
	for _, path := range l {
		p.at(path).hold(d.Who)
	}
	return d.Path, api.OK
}

func (p *plain) root(d store.Deed) (api.Path, api.Errno) {
	if !p.has(d.Path, d.Who) {
		return api.Path{}, api.ErrRefs
	}
	if !base.Name(d.Name) {
		return api.Path{}, api.ErrArg
	}
	u := &p.users[d.Who-1]
	i := slices.IndexFunc(u.roots, func(r view.Root) bool { return r.Name == d.Name })
	switch {
	case i >= 0:
		u.roots[i].Path = d.Path
	case len(u.roots) >= u.quota.Roots:
		return api.Path{}, api.ErrQuota
	default:
		u.roots = append(u.roots, view.Root{Name: d.Name, Path: d.Path})
	}
	return d.Path, api.OK
}

func (p *plain) unroot(d store.Deed) (api.Path, api.Errno) {
	u := &p.users[d.Who-1]
	for i, r := range u.roots {
		if r.Name == d.Name {
			u.roots = slices.Delete(u.roots, i, i+1)
			return r.Path, api.OK
		}
	}
	return api.Path{}, api.ErrNone
}

func (p *plain) note(d store.Deed) api.Errno {
	if len(d.Name) < 1 || len(d.Name) > 62 {
		return api.ErrArg
	}
	if len(d.Bytes) > 2048 {
		return api.ErrLong
	}
	u := &p.users[d.Who-1]
	i := slices.IndexFunc(u.notes, func(r api.Row) bool { return r.Key == d.Name })
	switch {
	case i >= 0:
		u.notes[i].Val = bytes.Clone(d.Bytes)
	case len(u.notes) >= u.quota.Notes:
		return api.ErrQuota
	default:
		u.notes = append(u.notes, api.Row{Key: d.Name, Val: bytes.Clone(d.Bytes)})
	}
	return api.OK
}

func (p *plain) unnote(d store.Deed) api.Errno {
	u := &p.users[d.Who-1]
	for i, r := range u.notes {
		if r.Key == d.Name {
			u.notes = slices.Delete(u.notes, i, i+1)
			return api.OK
		}
	}
	return api.ErrNone
}

// collect lets go what roots do not need; there must be no ring.
func (p *plain) collect(who int) {
	var roots []api.Path
	for _, r := range p.users[who-1].roots {
		roots = append(roots, r.Path)
	}
	needed := p.closure(roots...)
	var left []thing
	for _, x := range p.things {
		if !slices.Contains(needed, x.Path) {
			x.holders = slices.DeleteFunc(slices.Clone(x.holders), func(y int) bool { return y == who })
		}
		if len(x.holders) > 0 {
			left = append(left, x)
		}
	}
	p.things = left
}

func (p *plain) mend(d store.Deed, w *[]written) (api.Path, api.Errno) {
	if !p.has(d.Path, d.Who) {
		return api.Path{}, api.ErrNone
	}
	x := p.at(d.Path)
	if name.Check(x.Object, d.Bytes) != api.OK {
		return api.Path{}, api.ErrHash
	}
	x.bytes = bytes.Clone(d.Bytes)
	*w = append(*w, written{path: d.Path, bytes: x.bytes})
	return d.Path, api.OK
}

// deed does one, and tells what it writes.
func (p *plain) deed(d store.Deed, w *[]written) (api.Path, api.Errno) {
	if d.Who < 1 || d.Who > len(p.users) {
		return api.Path{}, api.ErrUser
	}
	switch d.Kind {
	case 1:
		return p.add(d, w)
	case 2:
		return p.adopt(d)
	case 3:
		return p.root(d)
	case 4:
		return p.unroot(d)
	case 5:
		return api.Path{}, p.note(d)
	case 6:
		return api.Path{}, p.unnote(d)
	case 7:
		p.collect(d.Who)
		return api.Path{}, api.OK
	case 8:
		return p.mend(d, w)
	}
	return api.Path{}, api.ErrArg
}

// plainFind are the first sectors that are not taken, which are taken then.
func plainFind(taken []bool, many int) ([]api.Run, bool) {
	var l []api.Run
	for at := 0; at < len(taken) && many > 0; at++ {
		if taken[at] {
			continue
		}
		taken[at] = true
		many--
		if i := len(l) - 1; i >= 0 && l[i].At+l[i].Many == at {
			l[i].Many++
		} else {
			l = append(l, api.Run{At: at, Many: 1})
		}
	}
	return l, many == 0
}

// taken says of each sector whether an object lies there.
func (p *plain) taken() []bool {
	l := make([]bool, p.shape.Data)
	for _, x := range p.things {
		for _, r := range x.runs {
			for i := range r.Many {
				l[r.At+i] = true
			}
		}
	}
	return l
}

// turn does deeds, all of them or none; it tells what it writes, in order.
func (p *plain) turn(l ...store.Deed) ([]api.Path, []written, api.Errno) {
	c := p.clone()
	var told []api.Path
	var w []written
	for _, d := range l {
		path, e := c.deed(d, &w)
		if e != api.OK {
			return nil, nil, e
		}
		told = append(told, path)
	}
	taken := p.taken()
	for i := range w {
		runs, ok := plainFind(taken, (len(w[i].bytes)+63)/64)
		if !ok {
			return nil, nil, api.ErrFull
		}
		w[i].runs = runs
		if x := c.at(w[i].path); x != nil {
			x.runs = runs
		}
	}
	*p = *c
	return told, w, api.OK
}

// number is a number's bytes.
func number(n int) []byte {
	var b []byte
	for ; n >= 128; n >>= 7 {
		b = append(b, byte(n&127|128))
	}
	return append(b, byte(n))
}

// numbers are those of some, one behind the other.
func numbers(l ...int) []byte {
	var b []byte
	for _, n := range l {
		b = append(b, number(n)...)
	}
	return b
}

// text is a path's text.
func text(p api.Path) string {
	return base.Letters(p.Hash) + "-" + p.Name
}

// objectBytes are those of an object.
func objectBytes(o api.Object) []byte {
	b := append(number(len(text(o.Path))), text(o.Path)...)
	b = append(b, number(len(o.Refs))...)
	for _, r := range o.Refs {
		b = append(append(b, number(len(text(r)))...), text(r)...)
	}
	self := 0
	if o.Self {
		self = 1
	}
	return append(b, numbers(o.Size, self)...)
}

// rows are those of the table, in order.
func (p *plain) rows() []api.Row {
	var l []api.Row
	put := func(key string, val []byte) { l = append(l, api.Row{Key: key, Val: val}) }
	for i, u := range p.users {
		sign := string(rune('1' + i))
		put("q"+sign, numbers(u.quota.Bytes, u.quota.Objects, u.quota.Roots, u.quota.Notes))
		for _, r := range u.roots {
			put("r"+sign+r.Name, []byte(text(r.Path)))
		}
		for _, n := range u.notes {
			put("n"+sign+n.Key, n.Val)
		}
	}
	for _, x := range p.things {
		put("o"+text(x.Path), objectBytes(x.Object))
		runs := number(len(x.runs))
		for _, r := range x.runs {
			runs = append(runs, numbers(r.At, r.Many)...)
		}
		put("p"+text(x.Path), runs)
		for _, who := range x.holders {
			put("h"+string(rune('0'+who))+text(x.Path), nil)
		}
	}
	slices.SortFunc(l, func(a, b api.Row) int { return strings.Compare(a.Key, b.Key) })
	return l
}

// changed are the changes that make rows other ones, in order.
func changed(was, is []api.Row) []api.Change {
	var l []api.Change
	for len(was) > 0 || len(is) > 0 {
		switch {
		case len(is) == 0 || len(was) > 0 && was[0].Key < is[0].Key:
			l = append(l, api.Change{Key: was[0].Key, Gone: true})
			was = was[1:]
		case len(was) == 0 || is[0].Key < was[0].Key:
			l = append(l, api.Change{Key: is[0].Key, Val: is[0].Val})
			is = is[1:]
		default:
			if !bytes.Equal(was[0].Val, is[0].Val) {
				l = append(l, api.Change{Key: is[0].Key, Val: is[0].Val})
			}
			was, is = was[1:], is[1:]
		}
	}
	return l
}
