package page

import (
	"iter"
	"slices"

	"cresset/api"
)

// Find is what the page has of key: of a leaf the entry with that Key, of an inner page the one in whose child key is; and whether there is one.
func Find(p api.Page, key string) (api.Entry, bool) {
	search := lastUpTo
	if p.Leaf {
		search = withKey
	}
	at, is := search(p.List, key)
	if !is {
		return api.Entry{}, false
	}
	return p.List[at], true
}

// Put is the page with e, in the place of the entry that had its Key, if there was one.
func Put(p api.Page, e api.Entry) (api.Page, api.Errno) {
	if !Has(p, e.Key) {
		return api.Page{}, api.ErrOut
	}
	p = Clone(p)
	if at, is := withKey(p.List, e.Key); is {
		p.List[at] = e
	} else {
		at := first(p.List, func(key string) bool { return key > e.Key })
		p.List = slices.Insert(p.List, at, e)
	}
	return p, api.OK
}

// Remove is the page without the entry with that Key.
func Remove(p api.Page, key string) (api.Page, api.Errno) {
	at, is := withKey(p.List, key)
	if !is {
		return api.Page{}, api.ErrNone
	}
	p = Clone(p)
	p.List = slices.Delete(p.List, at, at+1)
	return p, api.OK
}

// From tells the entries from the first one on whose Key is not below key, as they were when it was asked.
func From(p api.Page, key string) iter.Seq[api.Entry] {
	at := first(p.List, func(other string) bool { return other >= key })
	list := slices.Clone(p.List[at:])
	return func(yield func(api.Entry) bool) {
		for _, e := range list {
			if !yield(e) {
				return
			}
		}
	}
}
