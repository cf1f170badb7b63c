package delta

import (
	"slices"

	"cresset/api"
)

// Fold is the page by all the deltas, from the last one (the oldest) to the first.
func Fold(base api.Page, l ...api.Delta) (api.Page, api.Errno) {
	return caught(func() api.Page { return folded(base, l) })
}

func folded(base api.Page, l []api.Delta) api.Page {
	p := outline(base, l)
	p.List = entries(base, l)
	return p
}

// outline is the page by the deltas but for its entries. Whether a delta is refused does not hang on these, so that the errors are all told here, and each delta takes no longer than it is long.
func outline(base api.Page, l []api.Delta) api.Page {
	p := base
	p.List = nil
	for _, d := range slices.Backward(l) {
		p = applied(p, d)
		p.List = nil
	}
	return p
}

// entries is what the page has by the deltas, of which none is refused.
func entries(base api.Page, l []api.Delta) []api.Entry {
	f := newDraft(base, l)
	f.come(len(base.List))
	for _, d := range slices.Backward(l) {
		switch d.Kind {
		case api.DeltaPut:
			f.put(d.Entry)
		case api.DeltaRemove:
			f.remove(d.Key)
		case api.DeltaSplit:
			f.cut(d.Key)
		case api.DeltaMerge:
			f.come(len(d.Right.List))
		}
	}
	return f.list()
}
