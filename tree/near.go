package tree

import "cresset/api"

// spot is an entry of an inner page: the page's number, the entry's key.
type spot struct {
	page int
	key  string
}

// merging is what Near is about to do with a leaf: which page gets its entries, which entries lead to it.
type merging struct {
	left  int
	spots []spot
}

// near merges the leaf into the one to its left, in one step. It does so only where no other session is at the tree: another one could not know where the leaf's keys went.
func (o *Op) near() place {
	m, may := o.plan()
	if !may {
		return atLag
	}
	t := o.tree
	t.change(m.left, api.Delta{Kind: api.DeltaMerge, Right: o.seen.page})
	for _, x := range m.spots {
		t.change(x.page, api.Delta{Kind: api.DeltaRemove, Key: x.key})
	}
	t.retire(o.seen.head)
	t.pages.Retire(o.page)
	t.epoch.Retire(api.Retired{Kind: api.RePage, Handle: api.Handle{Slot: o.page}})
	o.told.Found = true
	o.page = m.left
	return atTidy
}

// plan asks for all that stands against it, so that what is done then can't fail halfway.
func (o *Op) plan() (merging, bool) {
	t, p := o.tree, o.seen.page
	head, e := t.pages.Load(o.page)
	if o.crowded() || e != api.OK || head != o.seen.head || p.Low == "" {
		return merging{}, false
	}
	left, may := t.leftOf(p)
	if !may {
		return merging{}, false
	}
	spots, may := t.leadTo(o.page)
	return merging{left, spots}, may && t.free()-t.kept > len(spots)
}

// crowded says whether another session is at the tree.
func (o *Op) crowded() bool {
	for s := range api.Sessions + 1 {
		if _, is := o.tree.epoch.Pinned(s); is && s != o.ask.Session {
			return true
		}
	}
	return false
}

// leftOf is the leaf that ends where p begins, and whether p's entries may be put behind its own.
func (t *Tree) leftOf(p api.Page) (int, bool) {
	for n := range t.pages.All() {
		v, e := t.look(n)
		if e != api.OK { // nodes were freed while they were in use: what can't be read is left alone
			return 0, false
		}
		if v.page.Leaf && v.page.High == p.Low {
			return n, len(v.page.List)+len(p.List) <= api.PageMost
		}
	}
	return 0, false
}

// leadTo is the entries of inner pages whose Child is a page, and whether all of them may be removed: an inner page without its first entry would have keys for which it has no child.
func (t *Tree) leadTo(child int) ([]spot, bool) {
	var list []spot
	for n := range t.pages.All() {
		v, e := t.look(n)
		if e != api.OK {
			return nil, false
		}
		if v.page.Leaf {
			continue
		}
		for at, x := range v.page.List {
			if x.Child != child {
				continue
			}
			if at == 0 {
				return nil, false
			}
			list = append(list, spot{n, x.Key})
		}
	}
	return list, true
}

// change puts a delta ahead of a page as it is now; there is room for it.
func (t *Tree) change(n int, d api.Delta) {
	was, _ := t.pages.Load(n)
	if is, e := t.grow(was, d, t.kept); e == api.OK {
		t.swap(n, was, is)
	}
}
