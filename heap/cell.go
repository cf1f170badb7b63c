package heap

import (
	"cresset/api"
	"cresset/record"
)

// cell is a key, and where its versions begin.
type cell struct {
	key    string
	newest api.Handle // zero: it has no version
	closed bool
}

// empty says whether a cell has no version.
func (c cell) empty() bool { return c.newest == api.Handle{} }

// retired says whether a cell waits to be freed: one is closed while it has versions, and loses them by being retired alone.
func (c cell) retired() bool { return c.closed && c.empty() }

// Cell is a new cell of a key, out of what a session has reserved.
func (h *Heap) Cell(s int, key string) (api.Handle, api.Errno) {
	mine, e := h.share(s)
	if e != api.OK {
		return api.Handle{}, e
	}
	if e := record.Key(key); e != api.OK {
		return api.Handle{}, e
	}
	if mine.cells == 0 {
		return api.Handle{}, api.ErrFull
	}
	mine.cells--
	return h.cells.Put(cell{key: key}) // a slot is free: it was reserved
}

// Drop gives a cell back that nobody else has seen.
func (h *Heap) Drop(s int, at api.Handle) api.Errno {
	mine, c, e := h.ask(s, at)
	switch {
	case e != api.OK:
		return e
	case !c.empty():
		return api.ErrKept
	}
	mine.cells++
	return h.cells.Free(at)
}

// Key is a cell's key.
func (h *Heap) Key(at api.Handle) (string, api.Errno) {
	c, e := h.look(at)
	return c.key, e
}

// Reopen opens a closed cell again.
func (h *Heap) Reopen(at api.Handle) api.Errno {
	c, e := h.closedCell(at)
	if e != api.OK {
		return e
	}
	c.closed = false
	return h.cells.Set(at, c)
}

// Retire lets a closed cell, and its versions, wait until nobody can reach it.
func (h *Heap) Retire(at api.Handle) api.Errno {
	c, e := h.closedCell(at)
	if e != api.OK {
		return e
	}
	l, e := h.chain(c)
	if e != api.OK {
		return e
	}
	c.newest = api.Handle{}
	h.cells.Set(at, c)
	h.retire(l.handles)
	return h.epoch.Retire(api.Retired{Kind: api.ReCell, Handle: at})
}

// ask is what a session has reserved, and what a cell is.
func (h *Heap) ask(s int, at api.Handle) (*share, cell, api.Errno) {
	mine, e := h.share(s)
	if e != api.OK {
		return nil, cell{}, e
	}
	c, e := h.cells.Get(at)
	return mine, c, e
}

// look is what a cell is.
func (h *Heap) look(at api.Handle) (cell, api.Errno) {
	if !h.made() {
		return cell{}, api.ErrMade
	}
	return h.cells.Get(at)
}

// closedCell is what a cell is that is closed, and not retired.
func (h *Heap) closedCell(at api.Handle) (cell, api.Errno) {
	c, e := h.look(at)
	switch {
	case e != api.OK:
		return cell{}, e
	case !c.closed || c.retired():
		return cell{}, api.ErrKept
	}
	return c, api.OK
}
