package tree

import (
	"cresset/api"
	"cresset/chain"
)

// fresh is a new page's number and its head.
type fresh struct {
	number int
	head   api.Handle
}

// begin is chain.Begin, if there is room for it.
func (t *Tree) begin(p api.Page) (api.Handle, api.Errno) {
	if t.free() <= t.kept {
		return api.Handle{}, api.ErrFull
	}
	return chain.Begin(t.nodes, p)
}

// grow is chain.Grow, if more slots are free than so many that are to be left.
func (t *Tree) grow(head api.Handle, d api.Delta, left int) (api.Handle, api.Errno) {
	if t.free() <= left {
		return api.Handle{}, api.ErrFull
	}
	return chain.Grow(t.nodes, head, d)
}

// pack is chain.Pack, if there is room for it.
func (t *Tree) pack(head api.Handle) (api.Handle, api.Errno) {
	if t.free() <= t.kept {
		return api.Handle{}, api.ErrFull
	}
	return chain.Pack(t.nodes, head)
}

// add is a new page, which no other page names yet.
func (t *Tree) add(p api.Page) (fresh, api.Errno) {
	head, e := t.begin(p)
	if e != api.OK {
		return fresh{}, e
	}
	number, e := t.pages.Alloc(head)
	if e != api.OK {
		t.nodes.Free(head)
		return fresh{}, e
	}
	return fresh{number, head}, api.OK
}

// retire lets all nodes of a chain wait, the head's first: sessions that are pinned may reach them still.
func (t *Tree) retire(head api.Handle) {
	for h := range chain.Nodes(t.nodes, head) {
		t.epoch.Retire(api.Retired{Kind: api.ReNode, Handle: h})
	}
}
