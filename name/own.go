package name

import (
	"spence/api"
	"spence/code"
	"spence/hash"
	"spence/refs"
)

// tag sets objects' hashes apart from all others.
const tag = "object"

// hashOf is the hash of an object of bytes, in which self stands for it, and which refers to paths.
func hashOf(name string, b []byte, self api.Hash, of ...api.Path) api.Hash {
	blank, at := refs.Blank(b, self)
	m := &code.Maker{}
	// No place in bytes breaks a maker.
	places, _ := m.Num(at...).Done()
	parts := [][]byte{[]byte(name), blank, places}
	return hash.Of(tag, append(parts, textsOf(of...)...)...)
}

// stands says whether a hash stands in bytes.
func stands(b []byte, h api.Hash) bool {
	return len(refs.Places(b, h)) > 0
}

// stand says whether all paths' hashes stand in bytes.
func stand(b []byte, l ...api.Path) bool {
	seen := map[api.Path]struct{}{}
	for _, p := range refs.Found(b, l...) {
		seen[p] = struct{}{}
	}
	for _, p := range l {
		if _, ok := seen[p]; !ok {
			return false
		}
	}
	return true
}

// owns says whether bytes are a right object's own.
func owns(o api.Object, b []byte) bool {
	self := o.Path.Hash
	if len(b) != o.Size || stands(b, self) != o.Self || !stand(b, o.Refs...) {
		return false
	}
	return hashOf(o.Path.Name, b, self, o.Refs...) == self
}
