package page

import (
	"slices"

	"cresset/api"
	"cresset/keys"
)

// Split is the page as two: the first half of its entries stays, the others go to a page id to its right.
func Split(p api.Page, id int) (api.Page, api.Page, api.Errno) {
	if id < 1 {
		return api.Page{}, api.Page{}, api.ErrArg
	}
	if len(p.List) < 2 {
		return api.Page{}, api.Page{}, api.ErrSplit
	}
	stay, gone := halves(p.List)
	mid, is := parting(p.Leaf, stay[len(stay)-1].Key, gone[0].Key)
	if !is {
		return api.Page{}, api.Page{}, api.ErrPage
	}
	left := api.Page{Leaf: p.Leaf, Low: p.Low, High: mid, Right: id, List: stay}
	right := api.Page{Leaf: p.Leaf, Low: mid, High: p.High, Right: p.Right, List: gone}
	return left, right, api.OK
}

// halves is a copy of list, cut in two so that what is put behind the first half does not reach into the second.
func halves(list []api.Entry) (stay, gone []api.Entry) {
	list = slices.Clone(list)
	half := len(list) / 2
	return list[:half:half], list[half:]
}

// parting is what parts the last Key that stays from the first one that goes, and whether anything does: an inner page's Low is its first entry's Key, so that there is no choice there.
func parting(leaf bool, last, first string) (string, bool) {
	if leaf {
		return keys.Separator(last, first)
	}
	return first, true
}

// Merge is both pages as one, q being the one to the right of p.
func Merge(p, q api.Page) (api.Page, api.Errno) {
	if p.Leaf != q.Leaf || p.High == "" || p.High != q.Low {
		return api.Page{}, api.ErrMerge
	}
	return api.Page{Leaf: p.Leaf, Low: p.Low, High: q.High, Right: q.Right, List: slices.Concat(p.List, q.List)}, api.OK
}
