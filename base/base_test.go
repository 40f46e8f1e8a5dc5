package base_test

import (
	"math/rand"
	"strings"
	"testing"

	"spence/api"
	"spence/base"
)

const letters = "0123456789abcdfghijklmnpqrsvwxyz"

// hashOf is a hash that begins with these bytes.
func hashOf(first ...byte) api.Hash {
	var h api.Hash
	copy(h[:], first)
	return h
}

// someHash is a hash out of a row that is the same each time.
func someHash(r *rand.Rand) api.Hash {
	var h api.Hash
	for i := range h {
		h[i] = byte(r.Intn(256))
	}
	return h
}

// slowLetters are a hash's letters, told bit by bit after the chapter's words.
func slowLetters(h api.Hash) string {
	var bits []int
	for _, b := range h {
		for range 8 {
			bits = append(bits, int(b%2))
			b /= 2
		}
	}
	out := ""
	for ; len(bits) > 0; bits = bits[5:] {
		out += string(letters[bits[0]+2*bits[1]+4*bits[2]+8*bits[3]+16*bits[4]])
	}
	return out
}

// P3.1: letters that are known, and the hashes behind them.
func TestLettersKnown(t *testing.T) {
	full := api.Hash{}
	for i := range full {
		full[i] = 255
	}
	last := api.Hash{}
	last[19] = 128
	for _, c := range []struct {
		h    api.Hash
		want string
	}{
		{hashOf(), strings.Repeat("0", 32)},
		{hashOf(33), "11" + strings.Repeat("0", 30)},
		{hashOf(1), "1" + strings.Repeat("0", 31)},
		{hashOf(0, 1), "08" + strings.Repeat("0", 30)},
		{hashOf(32), "01" + strings.Repeat("0", 30)},
		{hashOf(0, 0, 1), "000" + "2" + strings.Repeat("0", 28)},
		{hashOf(31), "z" + strings.Repeat("0", 31)},
		{last, strings.Repeat("0", 31) + "h"},
		{full, strings.Repeat("z", 32)},
	} {
		if got := base.Letters(c.h); got != c.want {
			t.Errorf("%v: %q, not %q", c.h, got, c.want)
		}
		if h, e := base.Hash(c.want); h != c.h || e != api.OK {
			t.Errorf("%q: %v, %d", c.want, h, e)
		}
	}
}

// P3.1: each letter at each place has its value, both ways.
func TestLettersEach(t *testing.T) {
	for place := range 32 {
		for value, letter := range letters {
			var want api.Hash
			for bit := range 5 {
				n := 5*place + bit
				want[n/8] |= byte(value>>bit&1) << (n % 8)
			}
			s := strings.Repeat("0", place) + string(letter) + strings.Repeat("0", 31-place)
			if h, e := base.Hash(s); h != want || e != api.OK {
				t.Errorf("%q: %v, %d", s, h, e)
			}
			if got := base.Letters(want); got != s {
				t.Errorf("%v: %q, not %q", want, got, s)
			}
		}
	}
}

// wantNoHash asks that s are no hash's letters.
func wantNoHash(t *testing.T, s string) {
	t.Helper()
	if h, e := base.Hash(s); h != (api.Hash{}) || e != api.ErrShape {
		t.Errorf("Hash(%q): %v, %d", s, h, e)
	}
}

// P3.1: what is longer or shorter, or has what is no letter, is no hash's.
func TestHashWrong(t *testing.T) {
	for n := range 80 {
		if n != 32 {
			wantNoHash(t, strings.Repeat("0", n))
		}
	}
	// A letter of two bytes makes 32 bytes out of 31 letters, or 32 letters out of 33 bytes.
	for _, s := range []string{
		strings.Repeat("é", 16), strings.Repeat("é", 32), "é" + strings.Repeat("0", 30), strings.Repeat("0", 31) + "é",
		strings.Repeat("0", 31) + "\n", " " + strings.Repeat("0", 31), strings.Repeat("Z", 32), strings.Repeat("\uff10", 32),
	} {
		wantNoHash(t, s)
	}
	for b := range 256 {
		if strings.IndexByte(letters, byte(b)) >= 0 {
			continue
		}
		for place := range 32 {
			s := []byte(strings.Repeat("1", 32))
			s[place] = byte(b)
			wantNoHash(t, string(s))
		}
	}
}

// P3.3: each hash has letters of its own, of which it is told again; each 32 letters are a hash's.
func TestLettersAndBack(t *testing.T) {
	r := rand.New(rand.NewSource(3))
	seen := map[string]api.Hash{}
	for range 2000 {
		h := someHash(r)
		s := base.Letters(h)
		if s != slowLetters(h) {
			t.Fatalf("%v: %q, not %q", h, s, slowLetters(h))
		}
		if before, ok := seen[s]; ok && before != h {
			t.Fatalf("%v and %v have the letters %q", before, h, s)
		}
		seen[s] = h
		if back, e := base.Hash(s); back != h || e != api.OK {
			t.Fatalf("%q: %v, %d, not %v", s, back, e, h)
		}
	}
	for range 2000 {
		s := make([]byte, 32)
		for i := range s {
			s[i] = letters[r.Intn(32)]
		}
		h, e := base.Hash(string(s))
		if e != api.OK || base.Letters(h) != string(s) {
			t.Fatalf("%q: %v, %d, of the letters %q", s, h, e, base.Letters(h))
		}
	}
	// Each single bit counts.
	for bit := range 160 {
		var h api.Hash
		h[bit/8] = 1 << (bit % 8)
		seen[base.Letters(h)] = h
		if s := base.Letters(h); strings.Count(s, "0") != 31 || s[bit/5] != letters[1<<(bit%5)] {
			t.Errorf("bit %d: %q", bit, s)
		}
	}
}

// P3.1: names, and what is none.
func TestName(t *testing.T) {
	most := strings.Repeat("n", api.MaxName)
	for _, s := range []string{
		"a", "z", "A", "Z", "0", "9", "_", "+", "-", "a.", "a..b", "-.-", "e", "o", "u", "t", "hello-2.12_x+Y", most,
	} {
		if !base.Name(s) {
			t.Errorf("%q: no name", s)
		}
	}
	for _, s := range []string{
		"", ".", "..", ".a", most + "n", most + ".", " ", "a b", "a/b", "/", "a\x00", "a\n", "é", "aé", "\xff", "a\xff", "a:b", "a@", "a[", "a`", "a{", "a*", "a,", "ｎ", strings.Repeat("é", 12), strings.Repeat("n", 5000),
	} {
		if base.Name(s) {
			t.Errorf("%q: a name", s)
		}
	}
}

// P3.1: of all letters of one byte, alone, behind another, and at the end, those of a name may stand.
func TestNameEachLetter(t *testing.T) {
	const may = "abcdefghijklmnopqrstuvwxyzABCDEFGHIJKLMNOPQRSTUVWXYZ0123456789._+-"
	for b := range 256 {
		s := string([]byte{byte(b)})
		want := strings.IndexByte(may, byte(b)) >= 0
		if base.Name(s) != (want && s != ".") {
			t.Errorf("%q: %t", s, base.Name(s))
		}
		if base.Name("x"+s) != want || base.Name("x"+s+"y") != want {
			t.Errorf("%q behind x: %t", s, base.Name("x"+s))
		}
	}
}
