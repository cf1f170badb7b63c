package image

import (
	"slices"
	"strings"

	"cresset/api"
	"cresset/record"
)

// Redo does commits again on the pairs of a snapshot, and tells the timestamp up to which they are then.
func Redo(l []api.Stamped, ts int64, c ...api.Commit) ([]api.Stamped, int64, api.Errno) {
	if !rises(l) {
		return nil, 0, api.ErrOrder
	}
	news, last, e := gather(ts, c)
	if e != api.OK {
		return nil, 0, e
	}
	return overlay(l, news), last, api.OK
}

func rises(l []api.Stamped) bool {
	for at, p := range l {
		if !isAbove(p, l[:at]) {
			return false
		}
	}
	return true
}

// changes is what commits made of keys: of each the newest version.
type changes map[string]api.Version

// gather has what the commits behind a snapshot made, and the timestamp of the last one of them.
func gather(ts int64, l []api.Commit) (changes, int64, api.Errno) {
	news, last := changes{}, ts
	for _, c := range l {
		if e := record.CheckCommit(c); e != api.OK {
			return nil, 0, e
		}
		if c.TS <= ts { // the snapshot has it, wherever it stands
			continue
		}
		if c.TS <= last {
			return nil, 0, api.ErrOrder
		}
		news.add(c)
		last = c.TS
	}
	return news, last, api.OK
}

func (g changes) add(c api.Commit) {
	for _, w := range c.Writes {
		g[w.Key] = api.Version{TS: c.TS, Value: w.Value, Del: w.Del}
	}
}

// overlay is the pairs of l that were left alone, and what was written, rising.
func overlay(l []api.Stamped, news changes) []api.Stamped {
	list := slices.DeleteFunc(slices.Clone(l), func(p api.Stamped) bool {
		_, changed := news[p.Key]
		return changed
	})
	for key, v := range news {
		if !v.Del {
			list = append(list, api.Stamped{Key: key, Value: v.Value, TS: v.TS})
		}
	}
	slices.SortFunc(list, func(a, b api.Stamped) int { return strings.Compare(a.Key, b.Key) })
	return list
}

// Map is the pairs without their timestamps.
func Map(l []api.Stamped) []api.Pair {
	var list []api.Pair
	for _, p := range l {
		list = append(list, api.Pair{Key: p.Key, Value: p.Value})
	}
	return list
}
