package delta

import (
	"slices"

	"cresset/api"
	"cresset/page"
)

// Apply is the page by the delta.
func Apply(p api.Page, d api.Delta) (api.Page, api.Errno) {
	return caught(func() api.Page { return applied(p, d) })
}

// caught does what may be refused, and answers the error by which it was.
func caught[T any](do func() T) (x T, e api.Errno) {
	defer func() {
		if told := recover(); told != nil {
			e = refusal(told)
		}
	}()
	return do(), api.OK
}

// refusal is the error that a panic tells; one that tells none is no refusal, and goes on.
func refusal(told any) api.Errno {
	if e, is := told.(api.Errno); is {
		return e
	}
	panic(told)
}

// refuse ends what is being done, if e is an error.
func refuse(e api.Errno) {
	if e != api.OK {
		panic(e)
	}
}

// sure is a page that was answered beside e.
func sure(p api.Page, e api.Errno) api.Page {
	refuse(e)
	return p
}

func applied(p api.Page, d api.Delta) api.Page {
	refuse(Check(d))
	switch d.Kind {
	case api.DeltaPut:
		return sure(page.Put(p, d.Entry))
	case api.DeltaRemove:
		return without(p, d.Key)
	case api.DeltaSplit:
		return upTo(p, d.Key, d.Page)
	case api.DeltaMerge:
		return sure(page.Merge(p, d.Right))
	}
	panic(api.ErrGone)
}

// without is p without the entry with that Key, whether there is one or not.
func without(p api.Page, key string) api.Page {
	if !page.Has(p, key) {
		panic(api.ErrOut)
	}
	if q, e := page.Remove(p, key); e == api.OK {
		return q
	}
	return page.Clone(p)
}

// upTo is p with what is below key alone, its Right being the page that has the rest.
func upTo(p api.Page, key string, right int) api.Page {
	if key <= p.Low || !page.Has(p, key) {
		panic(api.ErrDelta)
	}
	p = page.Clone(p)
	p.List = slices.DeleteFunc(p.List, func(e api.Entry) bool { return e.Key >= key })
	p.High, p.Right = key, right
	return p
}
