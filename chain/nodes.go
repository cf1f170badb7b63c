package chain

import (
	"iter"

	"cresset/api"
	"cresset/arena"
	"cresset/delta"
	"cresset/page"
)

// Nodes goes through a chain's nodes with their handles, from the head on, as they are now.
func Nodes(a *arena.Arena[api.Node], head api.Handle) iter.Seq2[api.Handle, api.Node] {
	handles, nodes, _ := find(walk(a.Get, head, longest(a)), isBase)
	seen := newPicture(handles, nodes)
	return func(yield func(api.Handle, api.Node) bool) {
		for h, n := range walk(seen.get, head, api.MaxSlots) {
			if !yield(h, clone(n)) || isBase(n) {
				return
			}
		}
	}
}

// picture is nodes by their handles, as they were. A node is there once, however often a ring comes round to it.
type picture map[api.Handle]api.Node

func newPicture(handles []api.Handle, nodes []api.Node) picture {
	p := picture{}
	for i, h := range handles {
		if _, is := p[h]; !is {
			p[h] = clone(nodes[i])
		}
	}
	return p
}

func (p picture) get(h api.Handle) (api.Node, api.Errno) {
	if n, is := p[h]; is {
		return n, api.OK
	}
	return api.Node{}, api.ErrStale
}

// clone is a node with all of the same, and lists of its own.
func clone(n api.Node) api.Node {
	n.Page, n.Delta = page.Clone(n.Page), delta.Clone(n.Delta)
	return n
}
