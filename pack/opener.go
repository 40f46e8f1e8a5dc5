package pack

import (
	"spence/api"
	"spence/code"
	"spence/tree"
)

// opener goes through an archive.
type opener struct{ *code.Cursor }

// node gets a node, right or not; there is none where no kind stands.
func (o opener) node() (api.Node, bool) {
	kind := api.Kind(o.Num(int(api.KindDir)))
	switch kind {
	case api.KindDir:
		return o.dir()
	case api.KindFile:
		fallthrough
	case api.KindExec:
		fallthrough
	case api.KindLink:
		return api.Node{Kind: kind, Bytes: o.Text(api.MaxFile)}, true
	}
	// A cursor that broke comes here, too: it tells 0, which is no kind.
	return api.Node{}, false
}

// dir gets the directory whose kind was got.
func (o opener) dir() (api.Node, bool) {
	dir := api.Node{Kind: api.KindDir}
	for range o.Num(api.MaxNodes) {
		name := string(o.Text(api.MaxName))
		n, ok := o.node()
		if !ok {
			return api.Node{}, false
		}
		dir.Kids = append(dir.Kids, api.Kid{Name: name, Node: n})
	}
	return dir, true
}

// treeOf is the right tree whose archive b is, if there is one.
func treeOf(b []byte) (api.Node, bool) {
	o := opener{code.Over(b)}
	n, ok := o.node()
	if !ok || o.End() != api.OK || !tree.Right(n) {
		return api.Node{}, false
	}
	return n, true
}
