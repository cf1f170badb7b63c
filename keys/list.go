package keys

import (
	"slices"
	"strings"

	"cresset/api"
)

// Union is the fewest ranges that have just the texts of all in l, rising.
func Union(l ...api.Range) []api.Range {
	var list []api.Range
	for _, r := range rising(l) {
		last := len(list) - 1
		if last < 0 || isApart(list[last], r) {
			list = append(list, r)
		} else if holdEnds(r.High, list[last].High) > 0 {
			list[last].High = r.High
		}
	}
	return list
}

// rising has the ranges of l that are not empty, by where they begin.
func rising(l []api.Range) []api.Range {
	list := slices.DeleteFunc(slices.Clone(l), Empty)
	slices.SortFunc(list, func(a, b api.Range) int { return strings.Compare(a.Low, b.Low) })
	return list
}

// isApart says whether there is a text between a and b, which does not begin ahead of a.
func isApart(a, b api.Range) bool { return a.High != "" && a.High < b.Low }

// Hits says whether key is in one of l.
func Hits(l []api.Range, key string) bool {
	return slices.ContainsFunc(l, func(r api.Range) bool { return In(r, key) })
}

// Minus is the union of what is in l and not in r.
func Minus(l []api.Range, r api.Range) []api.Range {
	// Of ranges that are apart at most one is cut at each end of r: a long end is not held against itself over and over.
	whole := Union(l...)
	var left []api.Range
	for _, outside := range around(r) {
		for _, one := range whole {
			left = append(left, Meet(one, outside))
		}
	}
	return Union(left...)
}

// around has the texts that are not in r: those below it and those from its end on, where it has one. Around an empty range they overlap or touch, so that nothing is missed.
func around(r api.Range) []api.Range {
	var list []api.Range
	if r.Low != "" {
		list = append(list, api.Range{High: r.Low})
	}
	if r.High != "" {
		list = append(list, api.Range{Low: r.High})
	}
	return list
}
