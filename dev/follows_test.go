package dev_test

import (
	"bytes"
	"math/rand"
	"testing"

	"spence/api"
	"spence/dev"
)

// put is a write that is pending.
type put struct {
	at int
	b  []byte
}

// plain is a device after the chapter's words, one by one.
type plain struct {
	kept        [][]byte
	puts        []put
	deeds, fuse int
	down        bool
}

// newPlain is a plain device of so many sectors.
func newPlain(sectors int) *plain {
	p := &plain{}
	for range sectors {
		p.kept = append(p.kept, padded())
	}
	return p
}

// deed does what f does, unless it is down or the fuse ends.
func (p *plain) deed(f func()) api.Errno {
	if p.down {
		return api.ErrDown
	}
	if p.fuse == 1 {
		p.down, p.fuse = true, 0
		return api.ErrDown
	}
	if p.fuse > 1 {
		p.fuse--
	}
	p.deeds++
	f()
	return api.OK
}

// keep keeps the pending writes that may, in order.
func (p *plain) keep(may func(i int) bool) {
	for i, w := range p.puts {
		if may(i) {
			p.kept[w.at] = w.b
		}
	}
	p.puts = nil
}

// seen is what is seen of a sector.
func (p *plain) seen(at int) []byte {
	b := p.kept[at]
	for _, w := range p.puts {
		if w.at == at {
			b = w.b
		}
	}
	return b
}

// wantAlike asks that d tells all that p says.
func wantAlike(t *testing.T, d *dev.Device, p *plain) {
	t.Helper()
	wantStat(t, d, dev.Stat{Sectors: len(p.kept), Pending: len(p.puts), Deeds: p.deeds, Down: p.down})
	if !bytes.Equal(d.Kept(), bytes.Join(p.kept, nil)) {
		t.Error("something else is kept")
	}
	for at := range p.kept {
		got, e := d.Read(at)
		if p.down {
			if len(got) != 0 || e != api.ErrDown {
				t.Errorf("Read(%d) while it is down: %v, %d", at, got, e)
			}
		} else if !bytes.Equal(got, p.seen(at)) || e != api.OK {
			t.Errorf("Read(%d): %v, %d, not %v", at, got, e, p.seen(at))
		}
	}
}

// step does one thing to both.
func step(t *testing.T, r *rand.Rand, d *dev.Device, p *plain) {
	t.Helper()
	up, at := api.OK, r.Intn(len(p.kept))
	if p.down {
		up = api.ErrDown
	}
	switch n := r.Intn(100); {
	case n < 60:
		b := bytes.Repeat([]byte{byte(1 + r.Intn(255))}, r.Intn(api.Sector+1))
		want(t, "Write", d.Write(at, b), p.deed(func() { p.puts = append(p.puts, put{at, padded(b...)}) }))
	case n < 65:
		want(t, "Flush", d.Flush(), p.deed(func() { p.keep(func(int) bool { return true }) }))
	case n < 70:
		n := r.Intn(40) - 2
		want(t, "Fuse", d.Fuse(n), up)
		if !p.down {
			p.fuse = max(n, 0)
		}
	case n < 72:
		want(t, "Crash", d.Crash(), up)
		p.down = true
	case n < 82:
		keep := int(r.Uint64())
		if !p.down {
			want(t, "Wake of a device that is up", d.Wake(keep), api.ErrBusy)
			return
		}
		want(t, "Wake", d.Wake(keep), api.OK)
		p.keep(func(i int) bool { return uint64(keep)/(1<<(i%62))%2 == 1 })
		p.down, p.fuse = false, 0
	case n < 90:
		bit := r.Intn(512)
		want(t, "Spoil", d.Spoil(at, bit), api.OK)
		p.kept[at] = bytes.Clone(p.kept[at])
		p.kept[at][bit/8] ^= 1 << (bit % 8)
	case p.down:
		want(t, "Write while it is down", d.Write(-1, nil), api.ErrDown)
	default:
		want(t, "Write to no sector", d.Write(len(p.kept)+n, nil), api.ErrArg)
		want(t, "Write of too much", d.Write(at, make([]byte, 65+n)), api.ErrArg)
	}
}

// P4.1 to P4.4: rows of all calls tell what the chapter's words say.
func TestRowsOfCalls(t *testing.T) {
	for seed := range int64(40) {
		r := rand.New(rand.NewSource(seed))
		sectors := 1 + r.Intn(9)
		d, p := device(t, sectors), newPlain(sectors)
		for range 400 {
			step(t, r, d, p)
			wantAlike(t, d, p)
			if t.Failed() {
				t.Fatalf("row %d", seed)
			}
		}
	}
}

// P4.5: at whichever deed it crashes, a sector is as it was flushed, or as one of its writes since then: never a mixture.
func TestFlushedIsKept(t *testing.T) {
	for seed := range int64(600) {
		r := rand.New(rand.NewSource(seed))
		d := device(t, 4)
		may := map[int][][]byte{}
		for at := range 4 {
			may[at] = [][]byte{padded()}
		}
		want(t, "Fuse", d.Fuse(1+r.Intn(60)), api.OK)
		for !d.Stat().Down {
			at, b := r.Intn(4), full(byte(1+r.Intn(255)))
			switch {
			case r.Intn(9) > 0:
				if d.Write(at, b) == api.OK {
					may[at] = append(may[at], b)
				}
			case d.Flush() == api.OK:
				for at, l := range may {
					may[at] = l[len(l)-1:]
				}
			}
		}
		want(t, "Wake", d.Wake(int(r.Uint64())), api.OK)
		for at, l := range may {
			b, e := d.Read(at)
			among := false
			for _, x := range l {
				among = among || bytes.Equal(b, x)
			}
			if !among || e != api.OK {
				t.Fatalf("row %d: sector %d is %v (%d), none of %d that it may be", seed, at, b, e, len(l))
			}
		}
	}
}

// R4: the same calls are answered alike, by each device on its own.
func TestAlikeEachTime(t *testing.T) {
	one, two, other := device(t, 6), device(t, 6), device(t, 6)
	for i := range 100 {
		for _, d := range []*dev.Device{one, two} {
			write(t, d, i%6, byte(i))
		}
	}
	for _, d := range []*dev.Device{one, two} {
		want(t, "Crash", d.Crash(), api.OK)
		want(t, "Wake", d.Wake(0x2545f4914f6cdd1d), api.OK)
	}
	if !bytes.Equal(one.Kept(), two.Kept()) || one.Stat() != two.Stat() {
		t.Error("told otherwise the second time")
	}
	wantStat(t, other, dev.Stat{Sectors: 6})
	if !bytes.Equal(other.Kept(), make([]byte, 6*api.Sector)) {
		t.Error("a device has what others were given")
	}
}
