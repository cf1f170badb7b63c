package chain

import (
	"iter"

	"cresset/api"
	"cresset/arena"
)

// walk goes from head on through the nodes that get reads, each one naming the next. It ends ahead of a handle that is not good, and behind so many nodes; whether one is a base is left to who looks for it.
func walk(get func(api.Handle) (api.Node, api.Errno), head api.Handle, most int) iter.Seq2[api.Handle, api.Node] {
	return func(yield func(api.Handle, api.Node) bool) {
		h := head // it may be gone through again
		for range most {
			n, e := get(h)
			if e != api.OK || !yield(h, n) {
				return
			}
			h = n.Next
		}
	}
}

// longest is how many nodes need be gone through to know that a chain has no base. With more nodes than there are one was met twice, and they come round for ever: the api.MaxSlots nodes need not all be read.
func longest(a *arena.Arena[api.Node]) int { return min(a.Live()+1, api.MaxSlots) }

func isBase(n api.Node) bool { return n.Base }

// find goes through keys and values up to the first value that is looked for: all of them, and whether there is one.
func find[K, V any](all iter.Seq2[K, V], is func(V) bool) (keys []K, values []V, found bool) {
	for k, v := range all {
		keys, values = append(keys, k), append(values, v)
		if is(v) {
			return keys, values, true
		}
	}
	return keys, values, false
}

// each is what to makes of each value.
func each[V, W any](values []V, to func(V) W) []W {
	var list []W
	for _, v := range values {
		list = append(list, to(v))
	}
	return list
}
