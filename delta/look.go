package delta

import (
	"cresset/api"
	"cresset/page"
)

// Look is what the page by the deltas says of key: an entry, or the page where one must go on.
func Look(base api.Page, key string, l ...api.Delta) (api.Spot, api.Errno) {
	return caught(func() api.Spot { return looked(base, key, l) })
}

func looked(base api.Page, key string, l []api.Delta) api.Spot {
	if len(l) > 0 && l[0].Kind == api.DeltaGone && Check(l[0]) == api.OK {
		return api.Spot{Go: l[0].Page}
	}
	p := outline(base, l)
	switch {
	case !page.Has(p, key):
		return api.Spot{Go: beside(p, key)}
	case !p.Leaf:
		p.List = entries(base, l)
		return below(p, key)
	}
	e, found := inLeaf(base, key, l)
	return api.Spot{Entry: e, Found: found}
}

// beside is the page to the right of p, in whose range key is not.
func beside(p api.Page, key string) int {
	if key < p.Low || p.Right == 0 {
		panic(api.ErrOut)
	}
	return p.Right
}

// below is what an inner page says of key.
func below(p api.Page, key string) api.Spot {
	e, found := page.Find(p, key)
	if !found {
		panic(api.ErrOut)
	}
	return api.Spot{Entry: e, Found: true, Go: e.Child}
}

// inLeaf is the entry of key in a leaf, in whose range key is.
func inLeaf(base api.Page, key string, l []api.Delta) (api.Entry, bool) {
	p := api.Page{Leaf: true}
	if page.Check(base) == api.OK {
		p.List = saying(base, key, l)
	} else { // it may have key twice, or out of its range: there no delta says enough alone
		p.List = entries(base, l)
	}
	return page.Find(p, key)
}

// saying is entries that say enough of key, whatever stands behind them: the one that was put, none of what was removed, those of a page that was merged, or base's. A split needs no look: if key was cut off by one, and is there again, a newer merge has said so.
func saying(base api.Page, key string, l []api.Delta) []api.Entry {
	list := base.List
search:
	for _, d := range l {
		switch {
		case d.Kind == api.DeltaPut && d.Entry.Key == key:
			list = []api.Entry{d.Entry}
			break search
		case d.Kind == api.DeltaRemove && d.Key == key:
			list = nil
			break search
		case d.Kind == api.DeltaMerge && page.Has(d.Right, key):
			list = d.Right.List
			break search
		}
	}
	return list
}
