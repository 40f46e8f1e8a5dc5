package text_test

import (
	"bytes"
	"fmt"
	"math/rand"
	"slices"
	"strings"
	"testing"

	"spence/api"
	"spence/text"
)

// P17.2: texts of all kinds of derivations.
func TestGet(t *testing.T) {
	for what, d := range rightDrvs() {
		x, e := text.Get(plainText(d))
		wantDrv(t, what, x, e, d)
	}
	x, e := text.Get([]byte("drv a\nrun 01ff\n"))
	wantDrv(t, "the chapter's example", x, e, drv("a", "\x01\xff"))
	x, e = text.Get([]byte(sampleText))
	wantDrv(t, "of all", x, e, sample())
	x, e = text.Get([]byte("drv a\nrun -\n"))
	if wantDrv(t, "nothing to be done", x, e, drv("a", "")); len(x.Inputs) != 0 || len(x.Recipe) != 0 {
		t.Errorf("%s", show(x))
	}
}

// P17.2: lines that are none, too few, too many, or in another order.
func TestGetWrong(t *testing.T) {
	const p, h = noughts + "-p", noughts
	for _, s := range []string{
		"", "\n", "\n\n", " ", "-", "drv", "drv\n", "drv \n", "drv a", "drv a\n", "run -\n", "run 00\n", "src a " + p + "\n", "class a " + h + "\n",
		"drv a\nrun", "drv a\nrun\n", "drv a\nrun \n", "drv a\nrun -", "drv a\nrun - \n", "drv a\nrun  -\n", "drv a\n run -\n", "drv a\nrun\t-\n", "drv a run -\n", "drv a\r\nrun -\r\n", "drv a\nrun -\r\n",
		"\ndrv a\nrun -\n", " drv a\nrun -\n", "drv  a\nrun -\n", "drv a \nrun -\n", "drv a b\nrun -\n", "drv\ta\nrun -\n", "drv a\n\nrun -\n", "drv a\nrun -\n\n", "drv a\nrun -\n ", "drv a\nrun -\n-",
		"Drv a\nrun -\n", "DRV a\nrun -\n", "drv a\nRun -\n", "drv: a\nrun -\n", "drva\nrun -\n", "drv a\nrun-\n", "name a\nrun -\n", "drv a\ndo -\n", "drv a\nrun -\nend\n", "drv a\n-\nrun -\n",
		"drv .a\nrun -\n", "drv é\nrun -\n", "drv a/b\nrun -\n", "drv \xff\nrun -\n", "drv a\x00\nrun -\n", "drv " + strings.Repeat("n", 25) + "\nrun -\n",
		"drv a\nrun 0\n", "drv a\nrun 000\n", "drv a\nrun 0 0\n", "drv a\nrun 00 00\n", "drv a\nrun 00-\n", "drv a\nrun -00\n", "drv a\nrun --\n", "drv a\nrun 0g\n", "drv a\nrun g0\n", "drv a\nrun FF\n", "drv a\nrun aA\n", "drv a\nrun 0x00\n", "drv a\nrun :0\n", "drv a\nrun /0\n", "drv a\nrun `0\n", "drv a\nrun @0\n", "drv a\nrun é\n", "drv a\nrun \x00\x00\n", "drv a\nrun \xff\xff\n", "drv a\nrun +1\n",
		"run -\ndrv a\n", "drv a\ndrv a\nrun -\n", "drv a\ndrv b\nrun -\n", "drv a\nrun -\nrun -\n", "drv a\nrun 00\nrun 00\n", "drv a\nrun -\ndrv a\n", "drv a\nrun -\ndrv a\nrun -\n",
		"drv a\nrun -\nsrc a " + p + "\n", "drv a\nrun -\nclass a " + h + "\n", "src a " + p + "\ndrv a\nrun -\n", "class a " + h + "\ndrv a\nrun -\n", "drv a\nsrc a " + p + "\n", "drv a\nclass a " + h + "\n",
		"drv a\nsrc\nrun -\n", "drv a\nsrc a\nrun -\n", "drv a\nsrc " + p + "\nrun -\n", "drv a\nsrc a \nrun -\n", "drv a\nsrc  " + p + "\nrun -\n", "drv a\nsrc a  " + p + "\nrun -\n", "drv a\nsrc a " + p + " \nrun -\n", "drv a\nsrc a " + p + " b\nrun -\n", "drv a\nsrc a b " + p + "\nrun -\n", "drv a\nsrc " + p + " a\nrun -\n",
		"drv a\nsrc a " + h + "\nrun -\n", "drv a\nsrc a " + h + "-\nrun -\n", "drv a\nsrc a " + h + "p\nrun -\n", "drv a\nsrc a " + h + " p\nrun -\n", "drv a\nsrc a " + h + "-.p\nrun -\n", "drv a\nsrc a " + h[1:] + "-p\nrun -\n", "drv a\nsrc a 0" + p + "\nrun -\n", "drv a\nsrc a e" + p[1:] + "\nrun -\n", "drv a\nsrc a A" + p[1:] + "\nrun -\n", "drv a\nsrc a " + h + "-" + strings.Repeat("n", 25) + "\nrun -\n", "drv a\nsrc .a " + p + "\nrun -\n", "drv a\nsrc a/b " + p + "\nrun -\n", "drv a\nsrc " + strings.Repeat("n", 25) + " " + p + "\nrun -\n",
		"drv a\nclass\nrun -\n", "drv a\nclass a\nrun -\n", "drv a\nclass " + h + "\nrun -\n", "drv a\nclass a \nrun -\n", "drv a\nclass  " + h + "\nrun -\n", "drv a\nclass a  " + h + "\nrun -\n", "drv a\nclass a " + h + " \nrun -\n", "drv a\nclass a " + h + " b\nrun -\n", "drv a\nclass " + h + " a\nrun -\n",
		"drv a\nclass a " + p + "\nrun -\n", "drv a\nclass a " + h[1:] + "\nrun -\n", "drv a\nclass a " + h + "0\nrun -\n", "drv a\nclass a e" + h[1:] + "\nrun -\n", "drv a\nclass a " + h[1:] + "u\nrun -\n", "drv a\nclass a t" + h[1:] + "\nrun -\n", "drv a\nclass a " + h[1:] + "Z\nrun -\n", "drv a\nclass .a " + h + "\nrun -\n", "drv a\nclass é " + h + "\nrun -\n",
		"drv a\nclass a " + h + "\nclass a " + h + "\nrun -\n", "drv a\nclass b " + h + "\nclass a " + h + "\nrun -\n", "drv a\nclass a " + h + "\nsrc a " + p + "\nrun -\n", "drv a\nsrc b " + p + "\nclass a " + h + "\nrun -\n", "drv a\nclass a " + h + "\nclass B " + h + "\nrun -\n", "drv a\nclass aa " + h + "\nclass a " + h + "\nrun -\n",
		"drv a\nsrc a " + p + "\n\nclass b " + h + "\nrun -\n", "drv a\nsrc a " + p + "\ndrv a\nclass b " + h + "\nrun -\n", "drv a\nsrc a " + p + "\nrun -\nclass b " + h + "\n", "drv a\nclass a " + h + "\nclass b " + h + "\n",
		strings.Repeat("\n", 2000), strings.Repeat(" ", 2000), strings.Repeat("\x00", 2000), strings.Repeat("drv a\n", 333), strings.Repeat("run -\n", 333), "drv a\n" + strings.Repeat("run -\n", 332), "drv a\n" + strings.Repeat("class a "+h+"\n", 48), "drv " + strings.Repeat("n", 1996), "drv " + strings.Repeat("n", 1995) + "\n",
	} {
		if _, ok := plainGet([]byte(s)); ok {
			t.Fatalf("%q is a text", s)
		}
		wantNoDrv(t, fmt.Sprintf("%.300q", s), []byte(s), api.ErrShape)
	}
	wantNoDrv(t, "nil", nil, api.ErrShape)
}

// P17.2: what cannot be written has no text, though its lines be as a text's.
func TestGetWrongDrvs(t *testing.T) {
	for what, d := range wrongDrvs() {
		b := plainText(d)
		if _, ok := plainGet(b); ok {
			// What is said of such is lost in their lines, which are another derivation's.
			continue
		}
		w := api.ErrShape
		if len(b) > 2000 {
			w = api.ErrLong
		}
		wantNoDrv(t, what, b, w)
	}
	for i := range 20 {
		d := drv("a", "", many(i)...)
		x, e := text.Get(plainText(d))
		if i <= 8 {
			wantDrv(t, fmt.Sprintf("%d inputs", i), x, e, d)
		} else {
			wantNoDrv(t, fmt.Sprintf("%d inputs", i), plainText(d), api.ErrShape)
		}
	}
}

// P17.2: more than 2000 bytes are too long, whatever they are.
func TestGetLong(t *testing.T) {
	for what, d := range tooLong() {
		wantNoDrv(t, what, plainText(d), api.ErrLong)
	}
	longest := plainText(drv("ab", strings.Repeat("x", 994)))
	for what, b := range map[string][]byte{
		"a byte behind the longest":    append(longest[:2000:2000], '\n'),
		"bytes behind a text":          append([]byte(sampleText), make([]byte, 2000)...),
		"2001 noughts":                 make([]byte, 2001),
		"2001 line feeds":              bytes.Repeat([]byte("\n"), 2001),
		"many noughts":                 make([]byte, 1<<22),
		"many line feeds":              bytes.Repeat([]byte("\n"), 1<<22),
		"a derivation that is not so":  plainText(drv("a b", strings.Repeat("x", 994))),
		"nine inputs, a long recipe":   plainText(drv("a", strings.Repeat("x", 1000), many(9)...)),
		"a recipe of more than may be": plainText(drv("a", strings.Repeat("x", 1001))),
	} {
		wantNoDrv(t, what, b, api.ErrLong)
	}
	d, e := text.Get(longest)
	wantDrv(t, "2000 bytes", d, e, drv("ab", strings.Repeat("x", 994)))
	wantNoDrv(t, "2000 noughts", make([]byte, 2000), api.ErrShape)
}

// P17.2: all two bytes in a recipe's place: those are read that are two digits.
func TestGetDigits(t *testing.T) {
	for i := range 1 << 16 {
		two := string([]byte{byte(i >> 8), byte(i)})
		b := []byte("drv a\nrun " + two + "\n")
		value, found := 0, false
		for n := range 256 {
			if fmt.Sprintf("%02x", n) == two {
				value, found = n, true
			}
			if two[0] > 'f' || two[1] > 'f' {
				break
			}
		}
		if !found {
			wantNoDrv(t, fmt.Sprintf("%q", two), b, api.ErrShape)
			continue
		}
		d, e := text.Get(b)
		wantDrv(t, fmt.Sprintf("%q", two), d, e, drv("a", string([]byte{byte(value)})))
	}
}

// P17.2: each byte as one of a hash's letters: those are read that are letters.
func TestGetLetters(t *testing.T) {
	read := 0
	for i := range 256 {
		letter := string([]byte{byte(i)})
		for _, h := range []string{letter + noughts[1:], noughts[1:] + letter} {
			asObject := wantPlainGet(t, []byte("drv a\nsrc a "+h+"-p\nrun -\n"))
			asClass := wantPlainGet(t, []byte("drv a\nclass a "+h+"\nrun -\n"))
			if asObject != asClass {
				t.Errorf("%q: %v, %v", letter, asObject, asClass)
			}
			if asClass {
				read++
			}
		}
	}
	if read != 2*32 {
		t.Errorf("%d are letters", read)
	}
}

// wantPlainGet asks that Get of bytes is plainly right.
func wantPlainGet(t *testing.T, b []byte) bool {
	t.Helper()
	d, ok := plainGet(b)
	if !ok {
		wantNoDrv(t, fmt.Sprintf("%.300q", b), b, api.ErrShape)
		return false
	}
	x, e := text.Get(b)
	wantDrv(t, fmt.Sprintf("%.300q", b), x, e, d)
	return true
}

// allRows goes through all rows of up to most of these pieces, joined by a word.
func allRows(most int, by string, pieces []string, row func(string)) {
	var all func(l []string)
	all = func(l []string) {
		row(strings.Join(l, by))
		if len(l) == most {
			return
		}
		for _, p := range pieces {
			all(append(l[:len(l):len(l)], p))
		}
	}
	all(nil)
}

// P17.2: all rows of a few lines, held against the chapter's words.
func TestGetAllLines(t *testing.T) {
	lines := []string{"drv a\n", "drv b\n", "src a " + noughts + "-p\n", "src b " + noughts + "-p\n", "class a " + noughts + "\n", "class b " + noughts + "\n", "run -\n", "run 00\n", "\n"}
	read := 0
	allRows(5, "", lines, func(s string) {
		if wantPlainGet(t, []byte(s)) {
			read++
		}
	})
	// Of each of the two names and recipes: no inputs, one of four, a and b of two kinds each.
	if w := 2 * 2 * (1 + 4 + 2*2); read != w {
		t.Errorf("%d are texts, not %d", read, w)
	}
}

// P17.2: all rows of a few words as one line, held against the chapter's words.
func TestGetAllWords(t *testing.T) {
	words := []string{"drv", "src", "class", "run", "a", "-", "00", noughts, noughts + "-p", ""}
	read := 0
	allRows(4, " ", words, func(s string) {
		for _, b := range []string{"drv a\n" + s + "\nrun -\n", "drv a\n" + s + "\n", s + "\nrun -\n", s + "\n"} {
			if wantPlainGet(t, []byte(b)) {
				read++
			}
		}
	})
	if read == 0 {
		t.Error("none is a text")
	}
}

// P17.2: texts of which something is made otherwise, by chance, held against the chapter's words.
func TestGetByChance(t *testing.T) {
	r := rand.New(rand.NewSource(2))
	const letters = " \n-.09afgzAe\x00\xff"
	read := 0
	const rounds = 40000
	for range rounds {
		b := plainText(someDrv(r, false))
		for range 1 + r.Intn(2) {
			at := r.Intn(len(b))
			switch r.Intn(4) {
			case 0:
				b[at] = letters[r.Intn(len(letters))]
			case 1:
				b = slices.Insert(b, at, letters[r.Intn(len(letters))])
			case 2:
				b = append(slices.Delete(b, at, at+1), '\n')[:len(b)-1]
			case 3:
				l := bytes.SplitAfter(b, []byte("\n"))
				i, k := r.Intn(len(l)), r.Intn(len(l))
				l[i], l[k] = l[k], l[i]
				b = bytes.Join(l, nil)
			}
		}
		if wantPlainGet(t, b) {
			read++
		}
		if t.Failed() {
			t.FailNow()
		}
	}
	if read < rounds/20 || read > rounds*19/20 {
		t.Errorf("%d of %d are texts", read, rounds)
	}
}

// R3: what is got shares nothing with the bytes, which are not changed; it is told alike each time.
func TestGetSharesNothing(t *testing.T) {
	behind := []byte(sampleText + "behind")
	b := behind[:len(sampleText)]
	d, e := text.Get(b)
	wantDrv(t, "at first", d, e, sample())
	x, e := text.Get(b)
	wantDrv(t, "again", x, e, sample())
	l := d.Inputs[:cap(d.Inputs)]
	clear(l)
	recipe := d.Recipe[:cap(d.Recipe)]
	clear(recipe)
	wantDrv(t, "the other one is written over", x, api.OK, sample())
	if string(behind) != sampleText+"behind" {
		t.Error("the bytes are changed")
	}
	clear(behind)
	wantDrv(t, "the bytes are written over", x, api.OK, sample())
}
