package pack

import (
	"spence/api"
	"spence/code"
)

// packer gathers the archive of a right tree.
type packer struct{ code.Maker }

// node puts a node's archive.
func (p *packer) node(n api.Node) {
	p.Num(int(n.Kind))
	if n.Kind == api.KindDir {
		p.kids(n.Kids...)
	} else {
		p.Text(n.Bytes)
	}
}

// kids puts how many kids there are, and their bytes, joined in order.
func (p *packer) kids(l ...api.Kid) {
	p.Num(len(l))
	for _, k := range l {
		p.Text([]byte(k.Name))
		p.node(k.Node)
	}
}

// archive is that of a right tree, however long it is.
func archive(n api.Node) []byte {
	p := &packer{}
	p.node(n)
	// No number and no text of a right tree breaks a maker.
	b, _ := p.Done()
	return b
}
