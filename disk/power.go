package disk

import (
	"slices"

	"cresset/api"
)

// fuse lets the power go at the call that brings left to nought; one that has nought left is none.
type fuse struct {
	left int
	keep []bool
}

// Crash takes the power away.
func (d *Disk) Crash(keep ...bool) api.Errno {
	if e := d.ready(); e != api.OK {
		return e
	}
	d.lose(keep)
	return api.OK
}

// SetFuse lets the power go at a call to come.
func (d *Disk) SetFuse(n int, keep ...bool) api.Errno {
	switch {
	case !d.made():
		return api.ErrMade
	case n < 0:
		return api.ErrArg
	case n == 0:
		d.fuse = fuse{}
	default:
		d.fuse = fuse{left: n, keep: slices.Clone(keep)}
	}
	return api.OK
}

// Restart lets it come back.
func (d *Disk) Restart() api.Errno {
	if !d.made() {
		return api.ErrMade
	}
	d.down = false
	return api.OK
}

// Down tells whether it is away.
func (d *Disk) Down() bool { return d.made() && d.down }

// count counts a call that is not refused, and tells whether it meets the fuse.
func (d *Disk) count() bool {
	d.calls++
	if d.fuse.left == 0 {
		return false
	}
	d.fuse.left--
	return d.fuse.left == 0
}

// blow is what the fuse does to the call that meets it.
func (d *Disk) blow() api.Errno {
	d.lose(d.fuse.keep)
	return api.ErrDown
}

// lose takes the power away; of the dirty sectors, rising, those stay as they are whose place in keep is true.
func (d *Disk) lose(keep []bool) {
	place := 0
	for at := range d.Dirty() {
		if place < len(keep) && keep[place] {
			d.sure[at] = d.dirty[at]
		}
		place++
	}
	d.forget()
	d.fuse = fuse{}
	d.down = true
}
