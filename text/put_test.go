package text_test

import (
	"bytes"
	"fmt"
	"math/rand"
	"reflect"
	"strings"
	"testing"

	"spence/api"
	"spence/text"
)

// P17.1: derivations that can be written.
func TestCanRight(t *testing.T) {
	for what, d := range rightDrvs() {
		if !text.Can(d) {
			t.Errorf("%s: can't", what)
		}
	}
	for what, d := range tooLong() {
		if !text.Can(d) {
			t.Errorf("%s: can't, though but its text is too long", what)
		}
	}
}

// P17.1: derivations that cannot be written, each for one thing.
func TestCanWrong(t *testing.T) {
	for what, d := range wrongDrvs() {
		if text.Can(d) {
			t.Errorf("%s: can", what)
		}
		wantNoText(t, what, d, api.ErrArg)
	}
}

// P17.1: each byte as a name, and in one.
func TestCanNames(t *testing.T) {
	for i := range 256 {
		letter := string([]byte{byte(i)})
		for _, name := range []string{letter, letter + "a", "a" + letter, "a" + letter + "a"} {
			w := aName.MatchString(name)
			for _, d := range []api.Drv{drv(name, ""), drv("a", "", class(name, hashOf(1))), drv("a", "", src(name, hashOf(1), "a")), drv("a", "", src("a", hashOf(1), name))} {
				if can := text.Can(d); can != w {
					t.Errorf("%q: %s: can is %v", name, show(d), can)
				}
			}
		}
	}
}

// P17.1: the text, byte by byte.
func TestPut(t *testing.T) {
	for _, c := range []struct {
		d api.Drv
		w string
	}{
		{drv("a", "\x01\xff"), "drv a\nrun 01ff\n"},
		{drv("a", ""), "drv a\nrun -\n"},
		{api.Drv{Name: "a"}, "drv a\nrun -\n"},
		{drv("-", "\x00"), "drv -\nrun 00\n"},
		{drv("Z.z", "\x09\x0a\x0f\x10\x90\xa0\xab\xcd\xef"), "drv Z.z\nrun 090a0f1090a0abcdef\n"},
		{drv("run", "\x12\x34", class("-", hashOf())), "drv run\nclass - " + noughts + "\nrun 1234\n"},
		{drv("a", "-", src("b", hashOf(), "c")), "drv a\nsrc b " + noughts + "-c\nrun 2d\n"},
		{drv("a", "", src("-", hashOf(), "-")), "drv a\nsrc - " + noughts + "--\nrun -\n"},
		{sample(), sampleText},
	} {
		b, e := text.Put(c.d)
		wantText(t, c.w, b, e, []byte(c.w))
	}
	for what, d := range rightDrvs() {
		b, e := text.Put(d)
		wantText(t, what, b, e, plainText(d))
	}
}

// P17.1: each byte of a recipe has two digits, the higher four bits first.
func TestPutDigits(t *testing.T) {
	for i := range 256 {
		b, e := text.Put(drv("a", string([]byte{byte(i)})))
		wantText(t, fmt.Sprint(i), b, e, fmt.Appendf(nil, "drv a\nrun %02x\n", i))
	}
}

// P17.1: texts of 2000 bytes are told, those of more are too long.
func TestPutLong(t *testing.T) {
	for what, d := range tooLong() {
		if n := len(plainText(d)); n <= 2000 {
			t.Fatalf("%s: %d bytes", what, n)
		}
		wantNoText(t, what, d, api.ErrLong)
	}
	for name := 1; name <= 24; name++ {
		for inputs := range 9 {
			for recipe := 600; recipe <= 1000; recipe++ {
				d := drv(strings.Repeat("n", name), strings.Repeat("x", recipe), longest(inputs)...)
				n := 4 + name + 1 + 87*inputs + 4 + 2*recipe + 1
				if n < 1998 || n > 2003 {
					continue
				}
				b, e := text.Put(d)
				if n > 2000 && (e != api.ErrLong || b != nil) || n <= 2000 && (e != api.OK || len(b) != n) {
					t.Errorf("%d bytes: %d, %d", n, len(b), e)
				}
			}
		}
	}
}

// R2: what can't be written is no argument, however long its text would be.
func TestPutErrorsInOrder(t *testing.T) {
	for what, d := range wrongDrvs() {
		d.Recipe = bytes.Repeat([]byte{1}, max(1000, len(d.Recipe)))
		wantNoText(t, what, d, api.ErrArg)
	}
	for what, d := range tooLong() {
		d.Recipe = append(d.Recipe, make([]byte, 1001)...)
		wantNoText(t, what, d, api.ErrArg)
	}
}

// R3: a derivation is not changed, what is told is new memory, and it is told alike each time.
func TestPutSharesNothing(t *testing.T) {
	d := sample()
	// Behind their ends the lists have room, in which nothing may be written.
	d.Inputs = append(d.Inputs, class("z", hashOf(1)))[:3]
	d.Recipe = append(d.Recipe, "behind"...)[:2]
	was, inputs, recipe := copied(d), copied(api.Drv{Inputs: d.Inputs[:4]}), bytes.Clone(d.Recipe[:8])
	b, e := text.Put(d)
	wantText(t, "at first", b, e, []byte(sampleText))
	b = b[:cap(b)]
	for i := range b {
		b[i] = '!'
	}
	if !reflect.DeepEqual(d, was) || !same(api.Drv{Inputs: d.Inputs[:4]}, inputs) || !bytes.Equal(d.Recipe[:8], recipe) {
		t.Error("the derivation is changed")
	}
	b, e = text.Put(d)
	wantText(t, "again", b, e, []byte(sampleText))
}

// P17.1: derivations by chance, held against the chapter's words.
func TestPutByChance(t *testing.T) {
	r := rand.New(rand.NewSource(1))
	can := 0
	const rounds = 20000
	for range rounds {
		d := someDrv(r, true)
		if text.Can(d) != plainCan(d) {
			t.Fatalf("%s: can is %v", show(d), text.Can(d))
		}
		if !plainCan(d) {
			wantNoText(t, "by chance", d, api.ErrArg)
			continue
		}
		can++
		b, e := text.Put(d)
		wantText(t, "by chance", b, e, plainText(d))
	}
	if can < rounds/4 || can > rounds*9/10 {
		t.Errorf("%d of %d can be written", can, rounds)
	}
}
