package delta_test

import (
	"math/rand/v2"
	"slices"
	"testing"

	"cresset/api"
	"cresset/delta"
	"cresset/page"
)

// The document's words written down a second time: each delta makes a page, by the calls of package page that the words name, and what is looked for is looked for in the last one.

func wordsCheck(d api.Delta) api.Errno {
	noEntry, noKey, noPage := d.Entry == api.Entry{}, len(d.Key) == 0, d.Page == 0
	r := d.Right
	noRight := !r.Leaf && r.Low == "" && r.High == "" && r.Right == 0 && len(r.List) == 0
	good := false
	switch d.Kind {
	case 1:
		good = noKey && noPage && noRight
	case 2:
		good = noEntry && noPage && noRight
	case 3:
		good = noEntry && noRight && d.Page > 0 && !noKey
	case 4:
		good = noEntry && noKey && noPage && page.Check(r) == 0
	case 5:
		good = noEntry && noKey && noRight && d.Page > 0
	}
	if good {
		return 0
	}
	return 90
}

func wordsApply(p api.Page, d api.Delta) (api.Page, api.Errno) {
	none := api.Page{}
	if e := wordsCheck(d); e != 0 {
		return none, e
	}
	isIn := d.Key >= p.Low && (p.High == "" || d.Key < p.High)
	switch d.Kind {
	case 1:
		return page.Put(p, d.Entry)
	case 2:
		if !isIn {
			return none, 73
		}
		q, e := page.Remove(p, d.Key)
		if e == 4 {
			return p, 0
		}
		return q, e
	case 3:
		if !isIn || d.Key == p.Low {
			return none, 90
		}
		q := api.Page{Leaf: p.Leaf, Low: p.Low, High: d.Key, Right: d.Page}
		for _, e := range p.List {
			if e.Key < d.Key {
				q.List = append(q.List, e)
			}
		}
		return q, 0
	case 4:
		return page.Merge(p, d.Right)
	}
	return none, 91
}

func wordsFold(p api.Page, l []api.Delta) (api.Page, api.Errno) {
	for at := len(l) - 1; at >= 0; at-- {
		q, e := wordsApply(p, l[at])
		if e != 0 {
			return api.Page{}, e
		}
		p = q
	}
	return p, 0
}

func wordsLook(base api.Page, key string, l []api.Delta) (api.Spot, api.Errno) {
	if len(l) > 0 && l[0].Kind == 5 && wordsCheck(l[0]) == 0 {
		return api.Spot{Go: l[0].Page}, 0
	}
	p, e := wordsFold(base, l)
	if e != 0 {
		return api.Spot{}, e
	}
	if key < p.Low {
		return api.Spot{}, 73
	}
	if p.High != "" && key >= p.High {
		if p.Right == 0 {
			return api.Spot{}, 73
		}
		return api.Spot{Go: p.Right}, 0
	}
	x, is := page.Find(p, key)
	if p.Leaf {
		return api.Spot{Entry: x, Found: is}, 0
	}
	if !is {
		return api.Spot{}, 73
	}
	return api.Spot{Entry: x, Found: true, Go: x.Child}, 0
}

func wordsUndo(p api.Page, d api.Delta) (api.Delta, bool) {
	if _, e := wordsApply(p, d); e != 0 || d.Kind > 2 {
		return api.Delta{}, false
	}
	key := d.Key
	if d.Kind == 1 {
		key = d.Entry.Key
	}
	for _, e := range p.List {
		if e.Key == key {
			return api.Delta{Kind: 1, Entry: e}, true
		}
	}
	return api.Delta{Kind: 2, Key: key}, true
}

// copied is a page whose list nobody else has.
func copied(p api.Page) api.Page {
	p.List = append(make([]api.Entry, 0, len(p.List)+3), p.List...)
	return p
}

// holdFold holds Fold and Look against the words, and answers whether the list is refused.
func holdFold(t *testing.T, base api.Page, l []api.Delta, keys ...string) bool {
	t.Helper()
	before := copied(base)
	got, e := delta.Fold(base, l...)
	wanted, f := wordsFold(base, l)
	if e != f || !equal(got, wanted) {
		t.Fatalf("Fold(%#v, %#v) = %#v, %d, want %#v, %d", base, l, got, e, wanted, f)
	}
	for _, key := range keys {
		x, e := delta.Look(base, key, l...)
		if y, f := wordsLook(base, key, l); x != y || e != f {
			t.Fatalf("Look(%#v, %#v, %#v) = %#v, %d, want %#v, %d", base, key, l, x, e, y, f)
		}
	}
	if !equal(base, before) {
		t.Fatalf("%#v was %#v", base, before)
	}
	return e != 0
}

// holdOne holds all that is asked of a page and one delta against the words.
func holdOne(t *testing.T, p api.Page, d api.Delta) {
	t.Helper()
	if e := delta.Check(d); e != wordsCheck(d) {
		t.Fatalf("Check(%#v) = %d", d, e)
	}
	got, e := delta.Apply(p, d)
	if wanted, f := wordsApply(p, d); e != f || !equal(got, wanted) {
		t.Fatalf("Apply(%#v, %#v) = %#v, %d, want %#v, %d", p, d, got, e, wanted, f)
	}
	u, is := delta.Undo(p, d)
	if x, ok := wordsUndo(p, d); is != ok || !equalDelta(u, x) {
		t.Fatalf("Undo(%#v, %#v) = %#v, %v, want %#v, %v", p, d, u, is, x, ok)
	}
}

// fewBases has leaves and inner pages with these keys, those that may not be too.
func fewBases() []api.Page {
	var list []api.Page
	for _, of := range [][]string{nil, {""}, {"a"}, {"a", "c"}, {"c", "a"}, {"c", "c"}, {"", "a", "b", "c"}, {"c", "a", "c", "b"}, {"b", "c", "a", "b"}} {
		for _, ends := range [][2]string{{"", ""}, {"", "b"}, {"a", "c"}, {"b", "a"}} {
			list = append(list, leaf(ends[0], ends[1], len(of), refs(of...)...), inner(ends[0], ends[1], len(of), children(of...)...))
		}
	}
	return list
}

// fewDeltas has some of each kind, and some that may not be.
func fewDeltas() []api.Delta {
	list := []api.Delta{{}, gone(0), gone(8), merge(leaf("b", "b", 1)), merge(leaf("b", "", 5, ref("b", 60), ref("c", 61))), merge(leaf("c", "", 0, ref("c", 62))), merge(inner("b", "c", 6, child("b", 63)))}
	for at, key := range []string{"", "a", "b", "c"} {
		list = append(list, put(ref(key, 70+at)), remove(key), split(key, 80+at))
	}
	return list
}

// P9.1 to P9.4: all lists of at most three of a few deltas, ahead of all of a few pages.
func TestAllShortLists(t *testing.T) {
	deltas := fewDeltas()
	few := []string{"", "a", "aa", "b", "c", "d"}
	for _, base := range fewBases() {
		holdFold(t, base, nil, few...)
		for _, a := range deltas {
			holdOne(t, base, a)
			holdFold(t, base, []api.Delta{a}, few...)
			for _, b := range deltas {
				holdFold(t, base, []api.Delta{a, b}, few...)
				for _, c := range deltas {
					holdFold(t, base, []api.Delta{a, b, c}, few...)
				}
			}
		}
	}
}

// source makes pages and deltas of a few keys.
type source struct {
	*rand.Rand
	of   string
	most int // bytes of a key
}

func (s source) text() string {
	b := make([]byte, s.IntN(s.most+1))
	for i := range b {
		b[i] = s.of[s.IntN(len(s.of))]
	}
	return string(b)
}

// rising is entries of the page that rise and are in its range.
func (s source) rising(p api.Page, many int) []api.Entry {
	for range many {
		e := api.Entry{Key: s.text()}
		if p.Leaf {
			e.Ref = api.Handle{Slot: s.IntN(1000), Gen: 1}
		} else {
			e.Child = 1 + s.IntN(1000)
		}
		if q, f := page.Put(p, e); f == 0 {
			p = q
		}
	}
	return p.List
}

// from is a page that may be, from low on; mostly without end, if it is far.
func (s source) from(isLeaf bool, low string, far bool) api.Page {
	p := api.Page{Leaf: isLeaf, Low: low, Right: s.IntN(5)}
	for range 4 {
		if high := s.text(); high > low && !far && (p.High == "" || high < p.High) {
			p.High = high
		}
	}
	if !isLeaf {
		p.List = []api.Entry{child(low, 1+s.IntN(1000))}
	}
	p.List = s.rising(p, s.IntN(8))
	return p
}

// wild is a page of any kind, often one that may nearly be.
func (s source) wild() api.Page {
	p := s.from(s.IntN(3) > 0, s.text(), s.IntN(2) == 0)
	switch s.IntN(3) {
	case 0: // keys twice, in any order, out of the range too
		for n := range s.IntN(12) {
			at := s.IntN(len(p.List) + 1)
			p.List = slices.Insert(p.List, at, api.Entry{Key: s.text(), Ref: api.Handle{Slot: n}, Child: s.IntN(2)})
		}
	case 1: // rising, but out of the range
		p.High = s.text()
	}
	return p
}

// next is a delta that mostly fits the page.
func (s source) next(p api.Page) api.Delta {
	if s.IntN(60) == 0 {
		return fewDeltas()[s.IntN(len(fewDeltas()))]
	}
	key := s.text()
	for range 20 {
		if page.Has(p, key) {
			break
		}
		key = s.text()
	}
	if len(p.List) > 0 && s.IntN(3) == 0 {
		if e := p.List[s.IntN(len(p.List))]; page.Has(p, e.Key) {
			key = e.Key
		}
	}
	switch n := s.IntN(20); {
	case n < 8:
		return put(api.Entry{Key: key, Ref: api.Handle{Slot: s.IntN(1000), Gen: 2}, Child: s.IntN(3)})
	case n < 14:
		return remove(key)
	case n < 16 && key > p.Low:
		return split(key, 1+s.IntN(9))
	case n < 20 && p.High != "":
		return merge(s.from(p.Leaf, p.High, s.IntN(3) == 0))
	}
	return remove(key)
}

// P9.2, P9.3: long lists, most of which are not refused, ahead of pages that may be and that may not.
func TestLongListsByWords(t *testing.T) {
	refused, taken := 0, map[bool]int{}
	for round := range 12000 {
		s := source{rand.New(rand.NewPCG(9, uint64(round))), "abc\xff", 1 + round%3}
		base := s.wild()
		var l []api.Delta
		p := base
		for range s.IntN(30) {
			d := s.next(p)
			holdOne(t, p, d)
			l = slices.Insert(l, 0, d)
			q, e := wordsApply(p, d)
			if e != 0 {
				break
			}
			p = q
		}
		if holdFold(t, base, l, "", s.text(), s.text(), s.text(), s.text(), "\xff\xff\xff\xff") {
			refused++
		} else if len(l) > 6 {
			taken[page.Check(base) == api.OK]++
		}
	}
	if refused < 1000 || taken[true] < 1000 || taken[false] < 1000 {
		t.Errorf("%d are refused, %v long ones are not: too few of one kind are tried", refused, taken)
	}
}
