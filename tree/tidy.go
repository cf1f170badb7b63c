package tree

import (
	"cresset/api"
	"cresset/page"
)

func (o *Op) tidy() place {
	v, e := o.tree.look(o.page)
	if e != api.OK {
		return atLag
	}
	o.seen = v
	switch {
	case v.deltas > api.DeltaMost:
		return atPack
	case page.Full(v.page):
		return atHalf
	}
	return atLag
}

func (o *Op) pack() place {
	head, e := o.tree.pack(o.seen.head)
	if e != api.OK {
		return atLag
	}
	if o.tree.swap(o.page, o.seen.head, head) {
		o.tree.retire(o.seen.head)
	}
	return atTidy
}

// half gives the halves their numbers. The root has just one, for good, and keeps it: both of its halves are new pages.
func (o *Op) half() place {
	left, right, e := page.Split(o.seen.page, 1) // the number is not known yet
	if e != api.OK {
		return atLag
	}
	o.parts = right.Low
	if !o.begin(right) {
		return atLag
	}
	if o.page == root {
		left.Right = o.fresh[0].number
		if !o.begin(left) {
			return o.undo(atLag)
		}
	}
	return atLink
}

// begin makes a half a page of its own, if that can be done.
func (o *Op) begin(p api.Page) bool {
	x, e := o.tree.add(p)
	if e != api.OK {
		return false
	}
	o.fresh = append(o.fresh, x)
	return true
}

// link makes the new pages known.
func (o *Op) link() place {
	head, e := o.linked()
	if e != api.OK {
		return o.undo(atLag)
	}
	if !o.tree.swap(o.page, o.seen.head, head) {
		return o.undo(atTidy)
	}
	if o.page == root {
		o.tree.retire(o.seen.head)
	} else if len(o.way) > 0 {
		o.lags = append(o.lags, late{o.way, o.parts, o.fresh[0].number})
	}
	o.fresh = nil
	return atLag
}

// linked is the new head, by which the page names the new ones.
func (o *Op) linked() (api.Handle, api.Errno) {
	right := o.fresh[0].number
	if o.page != root {
		return o.tree.grow(o.seen.head, api.Delta{Kind: api.DeltaSplit, Key: o.parts, Page: right}, o.tree.kept)
	}
	left := o.fresh[1].number
	return o.tree.begin(api.Page{List: []api.Entry{{Child: left}, {Key: o.parts, Child: right}}})
}

// undo gives the new pages back, and leads to a place.
func (o *Op) undo(to place) place {
	for _, x := range o.fresh {
		o.tree.giveBack(x)
	}
	o.fresh = nil
	return to
}
