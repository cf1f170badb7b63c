package delta_test

import (
	"math/rand/v2"
	"slices"
	"testing"

	"cresset/api"
	"cresset/delta"
	"cresset/page"
)

// own is a Put or a Remove of a key in the page's range, if one was come by.
func (s source) own(p api.Page) (api.Delta, string, bool) {
	key := s.text()
	if len(p.List) > 0 && s.IntN(2) == 0 {
		key = p.List[s.IntN(len(p.List))].Key
	}
	d := remove(key)
	if s.IntN(2) == 0 {
		d = put(api.Entry{Key: key, Ref: api.Handle{Slot: s.IntN(1000), Gen: 3}})
	}
	return d, key, page.Has(p, key)
}

// P9.5: what Look says of each key is what Fold's page says.
func TestLookSaysWhatFoldsPageSays(t *testing.T) {
	for round := range 3000 {
		s := source{rand.New(rand.NewPCG(95, uint64(round))), "abcd", 1 + round%2}
		base := s.from(round%3 > 0, s.text(), round%2 == 0)
		var l []api.Delta
		for range s.IntN(12) {
			p, _ := delta.Fold(base, l...)
			if more := append([]api.Delta{s.next(p)}, l...); delta.Check(more[0]) == api.OK && more[0].Kind != api.DeltaGone {
				if _, e := delta.Fold(base, more...); e == api.OK {
					l = more
				}
			}
		}
		p, e := delta.Fold(base, l...)
		want(t, "Fold", e, api.OK)
		for _, key := range []string{"", "a", "aa", "ab", "b", "bc", "c", "cd", "d", "dd", "e"} {
			got, f := delta.Look(base, key, l...)
			if whole, g := delta.Look(p, key); got != whole || f != g {
				t.Fatalf("Look(%#v, %#v, %#v) = %v, %d, of Fold's page %v, %d", base, key, l, got, f, whole, g)
			}
			if x, is := page.Find(p, key); f == api.OK && page.Has(p, key) && (x != got.Entry || is != got.Found) {
				t.Fatalf("Look(%#v, %#v, %#v) = %v, page.Find %v", base, key, l, got, x)
			}
		}
	}
}

// P9.5: deltas of unlike keys may change places; of the same key they may not.
func TestDeltasChangePlaces(t *testing.T) {
	tried := 0
	for round := range 6000 {
		s := source{rand.New(rand.NewPCG(59, uint64(round))), "abc", 1 + round%3}
		base := s.from(round%3 > 0, s.text(), true)
		var l []api.Delta
		var of []string
		for range s.IntN(10) {
			if d, key, fits := s.own(base); fits && !slices.Contains(of, key) {
				l, of = append(l, d), append(of, key)
			}
		}
		p, e := delta.Fold(base, l...)
		want(t, "Fold", e, api.OK)
		for range 5 {
			s.Shuffle(len(l), func(i, j int) { l[i], l[j] = l[j], l[i] })
			q, e := delta.Fold(base, l...)
			if e != api.OK || !page.Same(p, q) {
				t.Fatalf("Fold(%#v, %#v) = %#v, %d, in another order %#v", base, l, q, e, p)
			}
		}
		if len(l) > 1 {
			tried++
		}
	}
	if tried < 2000 {
		t.Errorf("only %d lists have deltas that may change places", tried)
	}
	p := leaf("", "", 0)
	wantFold(t, p, []api.Delta{put(ref("a", 1)), put(ref("a", 2))}, leaf("", "", 0, ref("a", 1)))
	wantFold(t, p, []api.Delta{put(ref("a", 2)), put(ref("a", 1))}, leaf("", "", 0, ref("a", 2)))
}

// P9.6: Undo of a delta leaves the page as it was; Undos of many, the newest undone first, do too.
func TestUndoLeavesTheEntries(t *testing.T) {
	undone := 0
	for round := range 6000 {
		s := source{rand.New(rand.NewPCG(96, uint64(round))), "abc", 1 + round%3}
		base := s.from(round%3 > 0, s.text(), round%2 == 0)
		p := base
		var back, l []api.Delta
		for range s.IntN(12) {
			d, _, fits := s.own(p)
			u, is := delta.Undo(p, d)
			if is != fits {
				t.Fatalf("Undo(%#v, %#v) = %#v, %v", p, d, u, is)
			}
			if !fits {
				continue
			}
			if q, e := delta.Fold(p, u, d); e != api.OK || !page.Same(p, q) {
				t.Fatalf("%#v, done %#v and undone %#v, is %#v, %d", p, d, u, q, e)
			}
			l, back = slices.Insert(l, 0, d), append(back, u)
			p, _ = delta.Apply(p, d)
			undone++
		}
		q, e := delta.Fold(base, slices.Concat(back, l)...)
		if e != api.OK || !page.Same(q, base) {
			t.Fatalf("%#v, done %#v and undone %#v, is %#v, %d", base, l, back, q, e)
		}
	}
	if undone < 10000 {
		t.Errorf("only %d were undone", undone)
	}
}

// P9.2: what was split off and merged again is there as it was.
func TestSplitAndMergeAgain(t *testing.T) {
	for round := range 2000 {
		s := source{rand.New(rand.NewPCG(92, uint64(round))), "abcd", 3}
		p := s.from(round%2 == 0, s.text(), round%3 == 0)
		l, r, e := page.Split(p, 7)
		if e != api.OK {
			continue
		}
		wantApply(t, p, split(l.High, 7), l)
		wantFold(t, p, []api.Delta{merge(r), split(l.High, 7)}, p)
	}
}
