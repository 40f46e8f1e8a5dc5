package hash_test

import (
	"bytes"
	"strings"
	"testing"

	"spence/api"
	"spence/hash"
)

// P2.2: a row in two and in three parts, at all places, has the Sum of the whole.
func TestSumHoweverParted(t *testing.T) {
	b := row(3*64 + 9)
	want := hash.Sum(b)
	for i := range len(b) + 1 {
		if hash.Sum(b[:i], b[i:]) != want {
			t.Errorf("parted at %d: another digest", i)
		}
		for j := i; j <= len(b); j++ {
			if hash.Sum(b[:i], b[i:j], b[j:]) != want {
				t.Fatalf("parted at %d and %d: another digest", i, j)
			}
		}
	}
}

// P2.2: a row in parts of one size, with empty parts between, has the Sum of the whole.
func TestSumOfManyParts(t *testing.T) {
	b := row(1000)
	want := hash.Sum(b)
	for size := 1; size <= 200; size++ {
		var parts [][]byte
		for left := b; len(left) > 0; left = left[min(size, len(left)):] {
			parts = append(parts, left[:min(size, len(left))], nil)
		}
		if hash.Sum(parts...) != want {
			t.Errorf("in parts of %d: another digest", size)
		}
	}
}

// partings gives f each way to part b into parts that are not empty.
func partings(b []byte, f func(parts [][]byte)) {
	for cuts := range 1 << (len(b) - 1) {
		var parts [][]byte
		from := 0
		for i := 1; i <= len(b); i++ {
			if i == len(b) || cuts>>(i-1)&1 == 1 {
				parts = append(parts, b[from:i])
				from = i
			}
		}
		f(parts)
	}
}

// P2.2: of other tags, and of parts otherwise parted, Of tells other hashes.
func TestOfHangsOnPartsAndTag(t *testing.T) {
	seen := map[api.Hash]string{}
	met := func(h api.Hash, what string) {
		if before, ok := seen[h]; ok {
			t.Errorf("%s and %s have one hash", before, what)
		}
		seen[h] = what
	}
	b := []byte("abcdefgh")
	for _, tag := range []string{"", "t", "tag", "ta", "g", "a", "\x01a"} {
		partings(b, func(parts [][]byte) {
			what := tag + ": " + string(bytes.Join(parts, []byte("|")))
			met(hash.Of(tag, parts...), what)
			met(hash.Of(tag, append([][]byte{nil}, parts...)...), what+" behind an empty one")
			met(hash.Of(tag, append(parts, nil)...), what+" before an empty one")
		})
	}
}

// P2.2: parts that bear what could be taken for the length of a text are not mistaken for others.
func TestOfLengthsInParts(t *testing.T) {
	seen := map[api.Hash]bool{}
	all := []api.Hash{
		hash.Of("a"), hash.Of("a", nil), hash.Of("a", nil, nil), hash.Of("a\x00"), hash.Of("a", []byte{0}),
		hash.Of("", []byte("a")), hash.Of("", []byte("\x01a")), hash.Of("\x01a"), hash.Of("", []byte{1}, []byte("a")),
		hash.Of(strings.Repeat("\x00", 128)), hash.Of(strings.Repeat("\x00", 129)), hash.Of("\x00", make([]byte, 127)), hash.Of("", make([]byte, 128)),
	}
	for _, h := range all {
		seen[h] = true
	}
	if len(seen) != len(all) {
		t.Errorf("%d hashes, not %d", len(seen), len(all))
	}
}

// R3, R4: no argument is changed, and what is told is the same each time.
func TestChangesNothing(t *testing.T) {
	b := row(500)
	// Room behind a part belongs to somebody else.
	parts := [][]byte{b[:70], nil, b[100:164], b[200:201]}
	sum, of := hash.Sum(parts...), hash.Of("tag", parts...)
	if !bytes.Equal(b, row(500)) || len(parts) != 4 || len(parts[0]) != 70 || parts[1] != nil {
		t.Error("an argument is changed")
	}
	hash.Sum(row(77))
	hash.Of("other", row(3))
	if hash.Sum(parts...) != sum || hash.Of("tag", parts...) != of {
		t.Error("told otherwise the second time")
	}
	given := sum
	hash.Fold(given)
	if given != sum {
		t.Error("a folded digest is changed")
	}
}
