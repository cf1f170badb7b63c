package epoch

import "cresset/api"

// Pin pins a session to the epoch.
func (e *Epoch) Pin(s int) api.Errno {
	if err := e.ask(s); err != api.OK {
		return err
	}
	if !e.pins[s].CompareAndSwap(0, e.now) {
		return api.ErrPinned
	}
	return api.OK
}

// Unpin lets it go.
func (e *Epoch) Unpin(s int) api.Errno {
	if err := e.ask(s); err != api.OK {
		return err
	}
	if e.pins[s].Swap(0) == 0 {
		return api.ErrLoose
	}
	return api.OK
}

// Pinned is the epoch to which a session is pinned.
func (e *Epoch) Pinned(s int) (int64, bool) {
	if e.ask(s) != api.OK {
		return 0, false
	}
	at := e.pins[s].Load()
	return at, at != 0
}

// ask tells why nothing can be asked of a session; api.Sessions itself is one, the store's own.
func (e *Epoch) ask(s int) api.Errno {
	switch {
	case !e.made():
		return api.ErrMade
	case s < 0 || s > api.Sessions:
		return api.ErrArg
	}
	return api.OK
}

// held tells whether a session may still reach what was retired in the epoch ahead of Now().
func (e *Epoch) held() bool {
	for s := range e.pins {
		if at := e.pins[s].Load(); at != 0 && at < e.now {
			return true
		}
	}
	return false
}
