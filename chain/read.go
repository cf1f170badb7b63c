package chain

import (
	"cresset/api"
	"cresset/arena"
	"cresset/delta"
	"cresset/page"
)

// parts is a chain that has a base. Its lists are the arena's still: who answers them answers copies.
type parts struct {
	handles []api.Handle // of all nodes, the head's first
	deltas  []api.Delta  // the newest one first
	base    api.Page
}

// take reads a chain, each node once.
func take(a *arena.Arena[api.Node], head api.Handle) (parts, api.Errno) {
	if !made(a) {
		return parts{}, api.ErrMade
	}
	most := longest(a)
	handles, nodes, found := find(walk(a.Get, head, most), isBase)
	last := len(nodes) - 1
	switch {
	case found:
		change := func(n api.Node) api.Delta { return n.Delta }
		return parts{handles, each(nodes[:last], change), nodes[last].Page}, api.OK
	case len(nodes) == most:
		return parts{}, api.ErrChain
	}
	return parts{}, api.ErrStale
}

// Read is a chain's base page and its deltas, the newest one first.
func Read(a *arena.Arena[api.Node], head api.Handle) (api.Page, []api.Delta, api.Errno) {
	c, e := take(a, head)
	return page.Clone(c.base), each(c.deltas, delta.Clone), e
}

// Page is the page that a chain makes.
func Page(a *arena.Arena[api.Node], head api.Handle) (api.Page, api.Errno) {
	c, e := take(a, head)
	if e != api.OK {
		return api.Page{}, e
	}
	return delta.Fold(c.base, c.deltas...)
}

// Look is what a chain says of key.
func Look(a *arena.Arena[api.Node], head api.Handle, key string) (api.Spot, api.Errno) {
	c, e := take(a, head)
	if e != api.OK {
		return api.Spot{}, e
	}
	return delta.Look(c.base, key, c.deltas...)
}
