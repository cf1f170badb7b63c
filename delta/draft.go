package delta

import (
	"slices"

	"cresset/api"
)

// draft is the entries of a page while many deltas are applied to them. A page of its own for each would take the time of all entries for each delta; here each takes but a few looks. Any page may be folded: keys may stand twice in it, and in any order.
//
// The entries of base and those of the pages that are merged come in rows; they keep their places in one long row. One that is put where none has its Key stands in a gap, ahead of a place of the row. It is put ahead of the first greater one, so that those in gaps rise from each gap to the next one.
type draft struct {
	keys  []string    // all that are named, rising, each once: a key is known by its number, its place here
	row   []api.Entry // base's entries and, behind them, those of the pages that are merged, the oldest first
	came  int         // how many of the row are there so far, or were
	key   []int       // by places of the row: the number of the key
	next  []int       // by places of the row: the next place with that key
	first []int       // by keys: the first place with it from which none was taken
	there peaks       // by places of the row: one more than the key's number, if the entry is there
	alone []api.Entry // by keys: the entry in a gap
	gap   []int       // by keys: the place of the row ahead of which that stands
	isSet peaks       // by keys: 1, if there is an entry in a gap
}

// newDraft is a draft in which nothing is yet.
func newDraft(base api.Page, l []api.Delta) *draft {
	f := &draft{row: slices.Clone(base.List)}
	for _, d := range slices.Backward(l) {
		f.row = append(f.row, d.Right.List...)
		f.keys = append(f.keys, d.Key, d.Entry.Key)
	}
	for _, e := range f.row {
		f.keys = append(f.keys, e.Key)
	}
	slices.Sort(f.keys)
	f.keys = slices.Compact(f.keys)
	f.link()
	f.there = newPeaks(len(f.row))
	f.alone = make([]api.Entry, len(f.keys))
	f.gap = make([]int, len(f.keys))
	f.isSet = newPeaks(len(f.keys))
	return f
}

// link notes of each place of the row its key, and of each key its places.
func (f *draft) link() {
	f.key = make([]int, len(f.row))
	f.next = make([]int, len(f.row))
	f.first = slices.Repeat([]int{len(f.row)}, len(f.keys))
	for at, e := range slices.Backward(f.row) {
		n := f.number(e.Key)
		f.key[at] = n
		f.next[at] = f.first[n]
		f.first[n] = at
	}
}

func (f *draft) number(key string) int {
	n, _ := slices.BinarySearch(f.keys, key)
	return n
}

// come lets so many more of the row be there.
func (f *draft) come(many int) {
	for range many {
		f.there.set(f.came, f.key[f.came]+1)
		f.came++
	}
}

// put puts e in the place of the first entry with its Key, or in a gap.
func (f *draft) put(e api.Entry) {
	n := f.number(e.Key)
	switch {
	case f.isSet.at(n) > 0:
		f.alone[n] = e
	case f.first[n] < f.came:
		f.row[f.first[n]] = e
	default:
		f.alone[n] = e
		f.gap[n] = f.gapOf(n)
		f.isSet.set(n, 1)
	}
}

// gapOf is the gap ahead of the first entry whose key is greater than that with the number n, or the one behind all that are there.
func (f *draft) gapOf(n int) int {
	gap := min(f.came, f.there.first(0, n+1))
	if greater := f.isSet.first(n+1, 0); greater < len(f.keys) {
		gap = min(gap, f.gap[greater])
	}
	return gap
}

// remove takes away the first entry with that Key, if there is one. One in a gap stands ahead of those in the row: these came behind it, else it would have been put in the place of one of them.
func (f *draft) remove(key string) {
	n := f.number(key)
	if f.isSet.at(n) > 0 {
		f.isSet.set(n, 0)
	} else if at := f.first[n]; at < f.came {
		f.take(at)
	}
}

// cut takes away all entries but those below key.
func (f *draft) cut(key string) {
	n := f.number(key)
	for at := f.there.first(0, n); at < f.came; at = f.there.first(at, n) {
		f.take(at)
	}
	for at := f.isSet.first(n, 0); at < len(f.keys); at = f.isSet.first(at, 0) {
		f.isSet.set(at, 0)
	}
}

// take takes an entry out of the row, the first one there that has its key.
func (f *draft) take(at int) {
	f.there.set(at, 0)
	f.first[f.key[at]] = f.next[at]
}

// list is what is there, in order.
func (f *draft) list() []api.Entry {
	var out []api.Entry
	n := f.isSet.first(0, 0)
	for at := range f.came + 1 {
		for n < len(f.keys) && f.gap[n] == at {
			out = append(out, f.alone[n])
			n = f.isSet.first(n+1, 0)
		}
		if at < f.came && f.there.at(at) > 0 {
			out = append(out, f.row[at])
		}
	}
	return out
}
