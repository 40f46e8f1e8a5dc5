package text_test

import (
	"fmt"
	"math/rand"
	"testing"

	"spence/api"
	"spence/text"
)

// P17.3: what is put is got, and put again to the same bytes.
func TestPutIsGot(t *testing.T) {
	r := rand.New(rand.NewSource(3))
	l := rightDrvs()
	for i := range 5000 {
		l[fmt.Sprintf("by chance %d", i)] = someDrv(r, false)
	}
	for what, d := range l {
		b, e := text.Put(d)
		if e != api.OK {
			t.Fatalf("%s: %d", what, e)
		}
		x, e := text.Get(b)
		wantDrv(t, what, x, e, d)
		again, e := text.Put(x)
		wantText(t, what, again, e, b)
	}
}

// P17.3: what is got of bytes that were made otherwise is put to these very bytes.
func TestGotIsPut(t *testing.T) {
	r := rand.New(rand.NewSource(4))
	got := 0
	const rounds = 40000
	for range rounds {
		b := plainText(someDrv(r, false))
		b[r.Intn(len(b))] = "\n 0-af9zA"[r.Intn(9)]
		d, e := text.Get(b)
		if e != api.OK {
			continue
		}
		got++
		again, e := text.Put(d)
		wantText(t, "made otherwise", again, e, b)
	}
	if got < rounds/10 {
		t.Errorf("%d of %d are texts", got, rounds)
	}
}

// P17.3: derivations have one text if they are one, else two.
func TestOneTextADerivation(t *testing.T) {
	r := rand.New(rand.NewSource(5))
	known := map[string]api.Drv{}
	met := 0
	for range 20000 {
		d := someDrv(r, false)
		if len(d.Inputs) > 1 {
			d.Inputs = d.Inputs[:1]
		}
		b, e := text.Put(d)
		if e != api.OK {
			t.Fatalf("%s: %d", show(d), e)
		}
		if x, ok := known[string(b)]; ok {
			met++
			if !same(x, d) {
				t.Fatalf("%s and %s: one text", show(x), show(d))
			}
		}
		known[string(b)] = d
	}
	if met < 100 || len(known) < 500 {
		t.Errorf("%d met, %d unlike", met, len(known))
	}
}

// P17.3: with a byte less, or more bytes less, at its end or its begin, a text is none.
func TestLessIsNone(t *testing.T) {
	for what, d := range rightDrvs() {
		b := plainText(d)
		for i := range len(b) {
			wantNoDrv(t, fmt.Sprintf("%s, %d of %d bytes", what, i, len(b)), b[:i], api.ErrShape)
			wantNoDrv(t, fmt.Sprintf("%s, the last %d of %d bytes", what, i, len(b)), b[len(b)-i:], api.ErrShape)
		}
	}
}

// P17.3: with a byte more, whichever it is, at its end or its begin, a text is none; the longest one is too long then.
func TestMoreIsNone(t *testing.T) {
	for what, d := range rightDrvs() {
		b := plainText(d)
		w := api.ErrShape
		if len(b) == 2000 {
			w = api.ErrLong
		}
		for more := range 256 {
			wantNoDrv(t, fmt.Sprintf("%s, and %d", what, more), append(b[:len(b):len(b)], byte(more)), w)
			wantNoDrv(t, fmt.Sprintf("%d, and %s", more, what), append([]byte{byte(more)}, b...), w)
		}
	}
}
