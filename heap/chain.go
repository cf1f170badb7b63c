package heap

import (
	"cresset/api"
	"cresset/version"
)

// link is a version in a cell's chain.
type link struct {
	version api.Version
	older   api.Handle // zero: there is none
}

// chain is a cell's versions, the newest one first, and where they are.
type chain struct {
	list    []api.Version
	handles []api.Handle
}

// Install puts a version to a cell, out of what a session has reserved.
func (h *Heap) Install(s int, at api.Handle, v api.Version) api.Errno {
	mine, c, e := h.ask(s, at)
	switch {
	case e != api.OK:
		return e
	case c.closed:
		return api.ErrClosed
	}
	l, e := h.chain(c)
	if e != api.OK {
		return e
	}
	if _, e := version.Put(l.list, v); e != api.OK {
		return e
	}
	if mine.versions == 0 {
		return api.ErrFull
	}
	mine.versions--
	c.newest, _ = h.versions.Put(link{v, c.newest}) // a slot is free: it was reserved
	return h.cells.Set(at, c)
}

// Read is the version that a snapshot sees.
func (h *Heap) Read(at api.Handle, ts int64) (api.Version, bool, api.Errno) {
	l, _, e := h.List(at)
	if e != api.OK {
		return api.Version{}, false, e
	}
	v, ok := version.At(l, ts)
	return v, ok, api.OK
}

// List are a cell's versions; whether it is closed.
func (h *Heap) List(at api.Handle) ([]api.Version, bool, api.Errno) {
	c, e := h.look(at)
	if e != api.OK {
		return nil, false, e
	}
	l, e := h.chain(c)
	if e != api.OK {
		return nil, false, e
	}
	return l.list, c.closed, api.OK
}

// Prune lets go of the versions that nobody needs: how many; whether the cell is closed.
func (h *Heap) Prune(at api.Handle, mark int64) (int, bool, api.Errno) {
	c, e := h.look(at)
	switch {
	case e != api.OK:
		return 0, false, e
	case c.closed || c.empty():
		return 0, c.closed, api.OK
	}
	l, e := h.chain(c)
	if e != api.OK {
		return 0, false, e
	}
	kept, rest := version.Prune(l.list, mark)
	if len(kept) == 0 {
		c.closed = true
		return 0, true, h.cells.Set(at, c)
	}
	h.cut(l, len(kept)) // the timestamps fall, so what is kept is the chain's beginning
	return len(rest), false, api.OK
}

// chain is a cell's chain. It ends: what is older was there first, and a handle that was freed is never good again.
func (h *Heap) chain(c cell) (chain, api.Errno) {
	var l chain
	for at := c.newest; at != (api.Handle{}); {
		x, e := h.versions.Get(at)
		if e != api.OK { // somebody has freed it while it was in use
			return chain{}, e
		}
		l.list, l.handles = append(l.list, x.version), append(l.handles, at)
		at = x.older
	}
	return l, api.OK
}

// cut lets the versions of a chain go, but so many of the newest.
func (h *Heap) cut(l chain, kept int) {
	h.versions.Set(l.handles[kept-1], link{version: l.list[kept-1]})
	h.retire(l.handles[kept:])
}

// retire lets versions wait: sessions that are pinned may reach them still.
func (h *Heap) retire(versions []api.Handle) {
	for _, at := range versions {
		h.epoch.Retire(api.Retired{Kind: api.ReHeap, Handle: at})
	}
}
