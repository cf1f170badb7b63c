package oracle

import "cresset/api"

// Open gives a session a snapshot: all that is published now.
func (o *Oracle) Open(s int) (int64, api.Errno) {
	if e := o.ask(s); e != api.OK {
		return 0, e
	}
	ts := o.published.Load()
	if !o.views[s].CompareAndSwap(0, ts+1) {
		return 0, api.ErrOpen
	}
	return ts, api.OK
}

// Close takes it back.
func (o *Oracle) Close(s int) api.Errno {
	if e := o.ask(s); e != api.OK {
		return e
	}
	if o.views[s].Swap(0) == 0 {
		return api.ErrShut
	}
	return api.OK
}

// Snapshot is a session's snapshot.
func (o *Oracle) Snapshot(s int) (int64, bool) {
	if o.ask(s) != api.OK {
		return 0, false
	}
	view := o.views[s].Load()
	if view == 0 {
		return 0, false
	}
	return view - 1, true
}

// Watermark is the oldest snapshot that is looked at, or could be from now on.
func (o *Oracle) Watermark() int64 {
	least := o.Published()
	for s := range api.Sessions + 1 {
		if ts, ok := o.Snapshot(s); ok {
			least = min(least, ts)
		}
	}
	return least
}

// ask tells why nothing can be asked of a session; api.Sessions itself is one, the store's own.
func (o *Oracle) ask(s int) api.Errno {
	switch {
	case !o.made():
		return api.ErrMade
	case s < 0 || s > api.Sessions:
		return api.ErrArg
	}
	return api.OK
}
