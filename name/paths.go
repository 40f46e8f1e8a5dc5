package name

import (
	"spence/api"
	"spence/base"
)

// maxPath is how many bytes a path's text has at most.
const maxPath = api.LettersHash + 1 + api.MaxName

// textOf is the text of a path that has a name.
func textOf(p api.Path) []byte {
	text, _ := base.Path(p)
	return []byte(text)
}

// textsOf are those of paths that have names.
func textsOf(l ...api.Path) [][]byte {
	var texts [][]byte
	for _, p := range l {
		texts = append(texts, textOf(p))
	}
	return texts
}

// named says whether all paths have names.
func named(l ...api.Path) bool {
	for _, p := range l {
		if !base.Name(p.Name) {
			return false
		}
	}
	return true
}

// others are those of the paths that are not of a hash.
func others(h api.Hash, l ...api.Path) []api.Path {
	var kept []api.Path
	for _, p := range l {
		if p.Hash != h {
			kept = append(kept, p)
		}
	}
	return kept
}

// mayRefer says whether paths are such that an object of a hash may refer to them.
func mayRefer(h api.Hash, l ...api.Path) bool {
	if len(l) > api.MaxRefs || !named(l...) {
		return false
	}
	for i, p := range l {
		if p.Hash == h || i > 0 && !base.Less(l[i-1], p) {
			return false
		}
	}
	return true
}
