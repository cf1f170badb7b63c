package version

import (
	"cmp"
	"iter"
	"maps"
	"slices"
	"strings"

	"cresset/api"
	"cresset/keys"
)

// Fold is the map that the commits up to a timestamp make.
func Fold(l []api.Commit, ts int64) []api.Pair {
	g := gathered{}
	for _, c := range upTo(l, ts) {
		g.write(c.Writes)
	}
	return g.pairs()
}

// upTo has the commits that are not above a timestamp, by theirs; alike ones as they stand in l.
func upTo(l []api.Commit, ts int64) []api.Commit {
	list := slices.DeleteFunc(slices.Clone(l), func(c api.Commit) bool { return c.TS > ts })
	slices.SortStableFunc(list, func(a, b api.Commit) int { return cmp.Compare(a.TS, b.TS) })
	return list
}

// Map goes through pairs as a map: rising by keys, each once, with the last value.
func Map(l ...api.Pair) iter.Seq2[string, string] {
	list := gather(l).pairs() // gathered here, not in the iterator: it is to tell what l was when it was asked for
	return func(yield func(string, string) bool) {
		for _, p := range list {
			if !yield(p.Key, p.Value) {
				return
			}
		}
	}
}

// Overlay is the map of m, and then the writes.
func Overlay(m []api.Pair, w ...api.Write) []api.Pair {
	g := gather(m)
	g.write(w)
	return g.pairs()
}

// Slice is the pairs of m whose keys are in r.
func Slice(m []api.Pair, r api.Range) []api.Pair {
	var list []api.Pair
	for _, p := range m {
		if keys.In(r, p.Key) {
			list = append(list, p)
		}
	}
	return list
}

// gathered is a map while it is made: its pairs, by their keys.
type gathered map[string]api.Pair

func gather(l []api.Pair) gathered {
	g := gathered{}
	for _, p := range l {
		g[p.Key] = p
	}
	return g
}

// write does writes, in their order.
func (g gathered) write(l []api.Write) {
	for _, w := range l {
		if w.Del {
			delete(g, w.Key)
		} else {
			g[w.Key] = api.Pair{Key: w.Key, Value: w.Value}
		}
	}
}

// pairs is the map as a list, rising by keys.
func (g gathered) pairs() []api.Pair {
	return slices.SortedFunc(maps.Values(g), func(a, b api.Pair) int { return strings.Compare(a.Key, b.Key) })
}
