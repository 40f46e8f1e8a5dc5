package refs

import (
	"bytes"
	"iter"

	"spence/api"
	"spence/base"
)

// letters are as many bytes as a hash has letters, whether they are those of a hash or not.
type letters [api.LettersHash]byte

// lettersOf are a hash's.
func lettersOf(h api.Hash) letters {
	return letters([]byte(base.Letters(h)))
}

// places are where l stands in b, from the left, none over another one.
func places(b []byte, l letters) iter.Seq[int] {
	return func(yield func(int) bool) {
		behind := 0
		for {
			at := bytes.Index(b[behind:], l[:])
			if at < 0 || !yield(behind+at) {
				return
			}
			behind += at + len(l)
		}
	}
}

// all are as many bytes of b as a hash has letters, from each place on.
func all(b []byte) iter.Seq[letters] {
	return func(yield func(letters) bool) {
		for len(b) >= api.LettersHash && yield(letters(b)) {
			b = b[1:]
		}
	}
}

// missing are the letters of those of the paths' hashes that stand nowhere in b.
func missing(b []byte, of ...api.Path) map[letters]struct{} {
	sought := map[letters]struct{}{}
	for _, p := range of {
		sought[lettersOf(p.Hash)] = struct{}{}
	}
	for l := range all(b) {
		if len(sought) == 0 {
			break
		}
		delete(sought, l)
	}
	return sought
}

// with is b in which l stands at each of h's places, and these places.
func with(b []byte, h api.Hash, l letters) ([]byte, []int) {
	// Of no bytes, nil or not, nil is told.
	changed := append([]byte(nil), b...)
	found := Places(b, h)
	for _, at := range found {
		copy(changed[at:], l[:])
	}
	return changed, found
}
