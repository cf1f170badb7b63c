package image

import (
	"iter"

	"cresset/api"
	"cresset/record"
)

// cut goes through pairs chunk by chunk.
func cut(pairs iter.Seq[api.Stamped]) iter.Seq[api.Chunk] {
	return func(yield func(api.Chunk) bool) {
		var c api.Chunk
		for p := range pairs {
			if len(c.List) == api.MaxChunk { // told only now: one more pair has come, so it is not the last one
				if !yield(c) {
					return
				}
				c = api.Chunk{Number: c.Number + 1}
			}
			c.List = append(c.List, p)
		}
		c.Last = true
		yield(c)
	}
}

// Build are the pairs of chunks.
func Build(l ...api.Chunk) ([]api.Stamped, api.Errno) {
	if len(l) == 0 {
		return nil, api.ErrArg
	}
	var list []api.Stamped
	for at := range l {
		if e := fits(l, at, list); e != api.OK {
			return nil, e
		}
		list = append(list, l[at].List...)
	}
	return list, api.OK
}

// fits tells why a chunk may not stand at its place, behind these pairs.
func fits(l []api.Chunk, at int, ahead []api.Stamped) api.Errno {
	c := l[at]
	if e := record.CheckChunk(c); e != api.OK {
		return e
	}
	if c.Number != at || c.Last != (at == len(l)-1) {
		return api.ErrArg
	}
	if len(c.List) > 0 && !isAbove(c.List[0], ahead) {
		return api.ErrOrder
	}
	return api.OK
}

// isAbove says whether a pair may stand behind others.
func isAbove(p api.Stamped, ahead []api.Stamped) bool {
	return len(ahead) == 0 || p.Key > ahead[len(ahead)-1].Key
}
