package tree

import (
	"slices"

	"cresset/api"
	"cresset/page"
)

// fromRoot begins the search, or begins it anew. What lags does so still.
func (o *Op) fromRoot() place {
	o.page, o.way = root, nil
	return atRead
}

func (o *Op) read() place {
	v, e := o.tree.look(o.page)
	switch {
	case e == api.ErrNone:
		return o.fromRoot()
	case e != api.OK: // nodes were freed while they were in use
		o.told.Err = e
		return atOut
	}
	o.seen = v
	switch {
	case o.ask.Key < v.page.Low:
		return o.fromRoot()
	case !page.Has(v.page, o.ask.Key):
		return o.goRight(v.page)
	case !v.page.Leaf:
		return o.goDown(v.page)
	}
	return o.found(v.page)
}

// goRight goes on in the page to which the key went in a split, of which the page above was not told, since it led here.
func (o *Op) goRight(p api.Page) place {
	if len(o.way) > 0 {
		o.lagOnce(late{o.way, p.High, p.Right})
	}
	o.page = p.Right
	return atRead
}

func (o *Op) goDown(p api.Page) place {
	child, _ := page.Find(p, o.ask.Key)
	o.way = append(slices.Clip(o.way), o.page)
	o.page = child.Child
	return atRead
}

// found is where a leaf that has the key's range leads.
func (o *Op) found(p api.Page) place {
	x, is := page.Find(p, o.ask.Key)
	switch o.ask.Kind {
	case api.OpGet:
		o.told.Entry, o.told.Found = x, is
	case api.OpLeaf:
		o.told.List = slices.Collect(page.From(p, o.ask.Key))
		o.told.Next, o.told.More = p.High, p.High != ""
	case api.OpAdd:
		if !is {
			return atSwap
		}
		o.told.Entry = x
	case api.OpRemove:
		if is && x.Ref == o.ask.Ref {
			return atSwap
		}
		o.told.Entry = x
	case api.OpShrink:
		if page.Small(p) && o.page != root && len(o.way) > 0 {
			return atNear
		}
	}
	return atLag
}

func (o *Op) swap() place {
	t := o.tree
	head, e := t.grow(o.seen.head, o.change(), o.leaves())
	if e != api.OK {
		o.told.Err = e
		return atOut
	}
	if !t.swap(o.page, o.seen.head, head) {
		return atRead
	}
	if o.ask.Kept && t.kept > 0 {
		t.kept--
	}
	o.told.Entry, o.told.Found = o.entry(), true
	return atTidy
}

// entry is what is put or removed.
func (o *Op) entry() api.Entry { return api.Entry{Key: o.ask.Key, Ref: o.ask.Ref} }

// change is the delta that does so.
func (o *Op) change() api.Delta {
	if o.ask.Kind == api.OpRemove {
		return api.Delta{Kind: api.DeltaRemove, Key: o.ask.Key}
	}
	return api.Delta{Kind: api.DeltaPut, Entry: o.entry()}
}

// leaves is how many free slots it leaves: one that takes its node out of what is kept may take the last.
func (o *Op) leaves() int {
	if o.ask.Kept {
		return 0
	}
	return o.tree.kept
}
