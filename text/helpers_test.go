package text_test

import (
	"bytes"
	"fmt"
	"math/rand"
	"reflect"
	"regexp"
	"slices"
	"strings"
	"testing"

	"spence/api"
	"spence/base"
	"spence/text"
)

// noughts are the letters of the hash of noughts.
const noughts = "00000000000000000000000000000000"

// hashOf is a hash that begins with these bytes, and goes on with noughts.
func hashOf(l ...byte) api.Hash {
	var h api.Hash
	copy(h[:], l)
	return h
}

func src(name string, h api.Hash, of string) api.Named {
	return api.Named{Name: name, Input: api.Input{Src: api.Path{Hash: h, Name: of}}}
}

func class(name string, h api.Hash) api.Named {
	return api.Named{Name: name, Input: api.Input{Class: h, Is: true}}
}

func drv(name, recipe string, l ...api.Named) api.Drv {
	return api.Drv{Name: name, Inputs: l, Recipe: []byte(recipe)}
}

// sample has inputs of both kinds.
func sample() api.Drv {
	return drv("prog-1.0", "\x01\xff",
		src("cc", hashOf(33), "gcc"),
		class("lib", hashOf(0, 255)),
		src("main.c", hashOf(), "main.c"),
	)
}

// sampleText is the text of sample, written out.
const sampleText = "drv prog-1.0\n" +
	"src cc 11000000000000000000000000000000-gcc\n" +
	"class lib 0qz10000000000000000000000000000\n" +
	"src main.c 00000000000000000000000000000000-main.c\n" +
	"run 01ff\n"

// many are so many inputs, of both kinds by turns.
func many(n int) []api.Named {
	var l []api.Named
	for i := range n {
		name := fmt.Sprintf("in%02d", i)
		if i%2 == 0 {
			l = append(l, src(name, hashOf(byte(i)), "a"))
		} else {
			l = append(l, class(name, hashOf(byte(i))))
		}
	}
	return l
}

// rightDrvs can be written, and their texts are not too long.
func rightDrvs() map[string]api.Drv {
	most := strings.Repeat("n", 24)
	l := map[string]api.Drv{
		"of all":                     sample(),
		"no inputs, no recipe":       drv("a", ""),
		"nil":                        {Name: "a"},
		"empty":                      {Name: "a", Inputs: []api.Named{}, Recipe: []byte{}},
		"the chapter's example":      drv("a", "\x01\xff"),
		"all letters of names, one":  drv("abcdefghijklmnopqrstuvwx", "x"),
		"all letters of names, two":  drv("yzABCDEFGHIJKLMNOPQRSTUV", "x"),
		"all letters of names, last": drv("WXYZ0123456789._+-", "x"),
		"a name of 24 letters":       drv(most, "x", src(most, hashOf(1), most)),
		"a name that is a minus":     drv("-", "-", src("-", hashOf(1), "-")),
		"names that are kinds":       drv("drv", "run", class("class", hashOf(1)), src("drv", hashOf(2), "src"), src("run", hashOf(2), "run"), src("src", hashOf(3), "class")),
		"eight inputs":               drv("a", "x", many(8)...),
		"a class of noughts":         drv("a", "x", class("a", hashOf())),
		"an object of noughts":       drv("a", "x", src("a", hashOf(), "a")),
		"one object twice":           drv("a", "x", src("a", hashOf(1), "a"), src("b", hashOf(1), "a")),
		"one class twice":            drv("a", "x", class("a", hashOf(1)), class("b", hashOf(1))),
		"a hash of ones":             drv("a", "x", class("a", api.Hash(bytes.Repeat([]byte{255}, 20)))),
		"names by their bytes": drv("a", "x", src("+", hashOf(1), "a"), src("-", hashOf(1), "a"), src("0", hashOf(1), "a"), src("A", hashOf(1), "a"),
			src("Z", hashOf(1), "a"), src("_", hashOf(1), "a"), src("a", hashOf(1), "a"), src("a.", hashOf(1), "a")),
		"names that begin alike": drv("a", "x", src("a", hashOf(1), "a"), src("aa", hashOf(1), "a"), class("ab", hashOf(1)), src("b", hashOf(1), "a")),
		"the longest text":       drv("ab", strings.Repeat("x", 994)),
		"the longest text, with inputs and names of all letters": drv(most, strings.Repeat("\x00", 635), longest(8)...),
	}
	for i := range 8 {
		l[fmt.Sprintf("%d inputs", i)] = drv("a", "x", many(i)...)
	}
	all := make([]byte, 256)
	for i := range all {
		all[i] = byte(i)
	}
	l["all bytes"] = drv("a", string(all))
	return l
}

// longest are so many objects whose lines are the longest, of 87 bytes each.
func longest(n int) []api.Named {
	var l []api.Named
	for i := range n {
		l = append(l, src(strings.Repeat("n", 23)+string(rune('0'+i)), hashOf(1), strings.Repeat("n", 24)))
	}
	return l
}

// tooLong can be written, but for their texts' lengths.
func tooLong() map[string]api.Drv {
	return map[string]api.Drv{
		"2001 bytes":               drv("a", strings.Repeat("x", 995)),
		"2002 bytes":               drv("ab", strings.Repeat("x", 995)),
		"the longest recipe":       drv("a", strings.Repeat("x", 1000)),
		"2001 bytes, of inputs":    drv(strings.Repeat("n", 23), strings.Repeat("\x00", 636), longest(8)...),
		"the longest text of all":  drv(strings.Repeat("n", 24), strings.Repeat("\x00", 1000), longest(8)...),
		"1000 bytes, eight inputs": drv("a", strings.Repeat("x", 1000), many(8)...),
	}
}

// wrongNames are no names.
func wrongNames() []string {
	return []string{"", ".", ".a", "..", "a b", " ", " a", "a ", "a\n", "\n", "a/b", "/", "é", "a\xff", "\x00", "a\x00", "a:", "a@b", "a,", "a~", "a*", strings.Repeat("n", 25), strings.Repeat("n", 5000)}
}

// wrongDrvs cannot be written.
func wrongDrvs() map[string]api.Drv {
	l := map[string]api.Drv{
		"nothing":                                {},
		"nine inputs":                            drv("a", "x", many(9)...),
		"a hundred inputs":                       drv("a", "x", many(100)...),
		"many inputs":                            drv("a", "x", make([]api.Named, 1<<20)...),
		"1001 bytes":                             drv("a", strings.Repeat("x", 1001)),
		"many bytes":                             drv("a", strings.Repeat("x", 1<<22)),
		"one name twice":                         drv("a", "x", src("a", hashOf(1), "a"), src("a", hashOf(2), "a")),
		"one name twice, of both kinds":          drv("a", "x", src("a", hashOf(1), "a"), class("a", hashOf(2))),
		"one input twice":                        drv("a", "x", class("a", hashOf(1)), class("a", hashOf(1))),
		"names that fall":                        drv("a", "x", class("b", hashOf(1)), class("a", hashOf(1))),
		"names that fall at the end":             drv("a", "x", class("a", hashOf(1)), class("c", hashOf(1)), class("b", hashOf(1))),
		"names that fall, but not by neighbours": drv("a", "x", class("b", hashOf(1)), class("a", hashOf(1)), class("c", hashOf(1))),
		"the longer name ahead":                  drv("a", "x", class("aa", hashOf(1)), class("a", hashOf(1))),
		"small letters ahead of great":           drv("a", "x", class("a", hashOf(1)), class("B", hashOf(1))),
		"names rise as numbers do":               drv("a", "x", class("9", hashOf(1)), class("10", hashOf(1))),
		"the last of eight is one again":         drv("a", "x", append(many(7), class("in06", hashOf(1)))...),
		"nothing but an input":                   {Inputs: []api.Named{class("a", hashOf(1))}},
		"an input that is nothing":               drv("a", "x", api.Named{}),
		"an object that is nothing":              drv("a", "x", api.Named{Name: "a"}),
		"an object of no name":                   drv("a", "x", src("a", hashOf(1), "")),
		"an object with a class":                 drv("a", "x", api.Named{Name: "a", Input: api.Input{Src: api.Path{Hash: hashOf(1), Name: "a"}, Class: hashOf(1)}}),
		"an object with a class's last bit":      drv("a", "x", api.Named{Name: "a", Input: api.Input{Src: api.Path{Hash: hashOf(1), Name: "a"}, Class: api.Hash{19: 128}}}),
		"a class that is said not to be one":     drv("a", "x", api.Named{Name: "a", Input: api.Input{Class: hashOf(1)}}),
		"a class with an object":                 drv("a", "x", api.Named{Name: "a", Input: api.Input{Src: api.Path{Hash: hashOf(1), Name: "a"}, Class: hashOf(1), Is: true}}),
		"a class with an object's hash":          drv("a", "x", api.Named{Name: "a", Input: api.Input{Src: api.Path{Hash: hashOf(1)}, Class: hashOf(1), Is: true}}),
		"a class with an object's name":          drv("a", "x", api.Named{Name: "a", Input: api.Input{Src: api.Path{Name: "a"}, Class: hashOf(1), Is: true}}),
		"an object that is said to be a class":   drv("a", "x", api.Named{Name: "a", Input: api.Input{Src: api.Path{Hash: hashOf(1), Name: "a"}, Is: true}}),
	}
	for _, name := range wrongNames() {
		what := fmt.Sprintf("%.30q", name)
		l["named "+what] = drv(name, "x")
		l["named so, with inputs "+what] = drv(name, "x", many(3)...)
		l["an object by "+what] = drv("a", "x", src(name, hashOf(1), "a"))
		l["a class by "+what] = drv("a", "x", class(name, hashOf(1)))
		l["an object of "+what] = drv("a", "x", src("a", hashOf(1), name))
		l["the second object of "+what] = drv("a", "x", src("a", hashOf(1), "a"), src("b", hashOf(1), name))
		l["the last input by "+what] = drv("a", "x", append(many(7), src("n"+name+"\xff", hashOf(1), "a"))...)
	}
	return l
}

// plainName is what a name is.
const plainName = `[a-zA-Z0-9_+-][a-zA-Z0-9._+-]{0,23}`

// plainLetters are a hash's.
const plainLetters = `[0-9a-df-np-sv-z]{32}`

var (
	aName = regexp.MustCompile(`^` + plainName + `$`)
	aText = regexp.MustCompile(`^drv ` + plainName + `\n((src ` + plainName + ` ` + plainLetters + `-` + plainName + `|class ` + plainName + ` ` + plainLetters + `)\n)*run (-|([0-9a-f][0-9a-f])+)\n$`)
)

// plainCan says whether a derivation can be written, after the chapter's words.
func plainCan(d api.Drv) bool {
	var names []string
	for _, x := range d.Inputs {
		names = append(names, x.Name)
		in := x.Input
		asObject := !in.Is && aName.MatchString(in.Src.Name) && in.Class == api.Hash{}
		asClass := in.Is && in.Src.Name == "" && in.Src.Hash == api.Hash{}
		if !aName.MatchString(x.Name) || asObject == asClass {
			return false
		}
	}
	rising := slices.Compact(slices.Sorted(slices.Values(names)))
	return aName.MatchString(d.Name) && len(names) <= 8 && slices.Equal(rising, names) && len(d.Recipe) <= 1000
}

// plainText is the text of a derivation that can be written, however long, after the chapter's words.
func plainText(d api.Drv) []byte {
	var b bytes.Buffer
	fmt.Fprintf(&b, "drv %s\n", d.Name)
	for _, x := range d.Inputs {
		if x.Input.Is {
			fmt.Fprintf(&b, "class %s %s\n", x.Name, base.Letters(x.Input.Class))
		} else {
			fmt.Fprintf(&b, "src %s %s-%s\n", x.Name, base.Letters(x.Input.Src.Hash), x.Input.Src.Name)
		}
	}
	if len(d.Recipe) == 0 {
		b.WriteString("run -\n")
	} else {
		fmt.Fprintf(&b, "run %02x\n", d.Recipe)
	}
	return b.Bytes()
}

// plainGet is the derivation whose text b is, if there is one and b is not too long, after the chapter's words.
func plainGet(b []byte) (api.Drv, bool) {
	if !aText.Match(b) {
		return api.Drv{}, false
	}
	var d api.Drv
	for _, line := range strings.Split(strings.TrimSuffix(string(b), "\n"), "\n") {
		words := strings.Fields(line)
		switch words[0] {
		case "drv":
			d.Name = words[1]
		case "src":
			h, _ := base.Hash(words[2][:32])
			d.Inputs = append(d.Inputs, src(words[1], h, words[2][33:]))
		case "class":
			h, _ := base.Hash(words[2])
			d.Inputs = append(d.Inputs, class(words[1], h))
		case "run":
			if words[1] != "-" {
				fmt.Sscanf(words[1], "%x", &d.Recipe)
			}
		}
	}
	return d, plainCan(d)
}

// same says whether two derivations are one; no elements and nil are alike.
func same(a, b api.Drv) bool {
	return a.Name == b.Name && slices.Equal(a.Inputs, b.Inputs) && bytes.Equal(a.Recipe, b.Recipe)
}

// copied is the same derivation in memory of its own.
func copied(d api.Drv) api.Drv {
	return api.Drv{Name: strings.Clone(d.Name), Inputs: slices.Clone(d.Inputs), Recipe: bytes.Clone(d.Recipe)}
}

// show tells a derivation, be it one that can be written or not, cut to what can be looked at.
func show(d api.Drv) string {
	return fmt.Sprintf("%.400s", fmt.Sprintf("%q %v %x", d.Name, d.Inputs[:min(len(d.Inputs), 9)], d.Recipe[:min(len(d.Recipe), 40)]))
}

func wantText(t *testing.T, what string, b []byte, e api.Errno, w []byte) {
	t.Helper()
	if e != api.OK || !bytes.Equal(b, w) {
		t.Errorf("%s: %.300q, %d, not %.300q", what, b, e, w)
	}
}

func wantNoText(t *testing.T, what string, d api.Drv, w api.Errno) {
	t.Helper()
	if b, e := text.Put(d); e != w || b != nil {
		t.Errorf("%s: %.300q, %d, not error %d", what, b, e, w)
	}
}

func wantDrv(t *testing.T, what string, d api.Drv, e api.Errno, w api.Drv) {
	t.Helper()
	if e != api.OK || !same(d, w) {
		t.Errorf("%s: %s, %d, not %s", what, show(d), e, show(w))
	}
}

func wantNoDrv(t *testing.T, what string, b []byte, w api.Errno) {
	t.Helper()
	if d, e := text.Get(b); e != w || !reflect.DeepEqual(d, api.Drv{}) {
		t.Errorf("%s: %s, %d, not error %d", what, show(d), e, w)
	}
}

// someName is one of a few names, some of which are none.
func someName(r *rand.Rand, wrong bool) string {
	if wrong && r.Intn(30) == 0 {
		l := wrongNames()
		return l[r.Intn(len(l))]
	}
	l := []string{"a", "b", "aa", "a-b", "A", "-", "0", "z.z", "_", "c+", "drv", "run", "src", strings.Repeat("n", 24)}
	return l[r.Intn(len(l))]
}

// someDrv is a derivation by chance; if wrong is asked for it may be one that cannot be written.
func someDrv(r *rand.Rand, wrong bool) api.Drv {
	d := api.Drv{Name: someName(r, wrong)}
	names := map[string]bool{}
	for range r.Intn(6) {
		names[someName(r, wrong)] = true
	}
	for _, name := range slices.Sorted(func(yield func(string) bool) {
		for name := range names {
			if !yield(name) {
				return
			}
		}
	}) {
		x := class(name, hashOf(byte(r.Intn(256)), byte(r.Intn(2))))
		if r.Intn(2) == 0 {
			x = src(name, x.Input.Class, someName(r, wrong))
		}
		if wrong && r.Intn(40) == 0 {
			x.Input.Is = !x.Input.Is
		}
		d.Inputs = append(d.Inputs, x)
	}
	if wrong && len(d.Inputs) > 1 && r.Intn(10) == 0 {
		i := r.Intn(len(d.Inputs) - 1)
		d.Inputs[i], d.Inputs[i+1] = d.Inputs[i+1], d.Inputs[i]
	}
	for range r.Intn(4) {
		d.Recipe = append(d.Recipe, byte(r.Intn(256)))
	}
	return d
}
