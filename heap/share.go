package heap

import "cresset/api"

// share is what a session has reserved and not used yet: slots that are free, and that nobody else is given.
type share struct {
	has      bool // it may have reserved, and nothing be left
	cells    int
	versions int
}

// Reserve keeps room for a session.
func (h *Heap) Reserve(s, cells, versions int) api.Errno {
	switch {
	case !h.made():
		return api.ErrMade
	case !isSession(s) || cells < 0 || versions < 0:
		return api.ErrArg
	case h.shares[s].has:
		return api.ErrReserve
	}
	if c, v := h.Room(); cells > c || versions > v {
		return api.ErrFull
	}
	h.shares[s] = share{true, cells, versions}
	return api.OK
}

// Release gives back what is left of it.
func (h *Heap) Release(s int) api.Errno {
	mine, e := h.share(s)
	if e != api.OK {
		return e
	}
	*mine = share{}
	return api.OK
}

// Reserved is what is left of what a session has reserved.
func (h *Heap) Reserved(s int) (int, int, bool) {
	mine, e := h.share(s)
	if e != api.OK {
		return 0, 0, false
	}
	return mine.cells, mine.versions, true
}

// Room is how many slots of the cells, and of the versions, are neither in use nor reserved.
func (h *Heap) Room() (int, int) {
	if !h.made() {
		return 0, 0
	}
	cells, versions := h.cells.Slots()-h.cells.Live(), h.versions.Slots()-h.versions.Live()
	for _, x := range h.shares {
		cells -= x.cells
		versions -= x.versions
	}
	return cells, versions
}

// share is what a session has reserved, or why nothing can be asked of it.
func (h *Heap) share(s int) (*share, api.Errno) {
	switch {
	case !h.made():
		return nil, api.ErrMade
	case !isSession(s):
		return nil, api.ErrArg
	case !h.shares[s].has:
		return nil, api.ErrReserve
	}
	return &h.shares[s], api.OK
}

// isSession says whether there is such a session; api.Sessions itself is one, the store's own.
func isSession(s int) bool { return s >= 0 && s <= api.Sessions }
