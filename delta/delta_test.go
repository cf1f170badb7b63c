package delta_test

import (
	"math"
	"slices"
	"strings"
	"testing"

	"cresset/api"
	"cresset/delta"
)

// ref is an entry of a leaf.
func ref(key string, slot int) api.Entry {
	return api.Entry{Key: key, Ref: api.Handle{Slot: slot, Gen: 1}}
}

// child is an entry of an inner page.
func child(key string, id int) api.Entry { return api.Entry{Key: key, Child: id} }

func leaf(low, high string, right int, list ...api.Entry) api.Page {
	return api.Page{Leaf: true, Low: low, High: high, Right: right, List: list}
}

func inner(low, high string, right int, list ...api.Entry) api.Page {
	return api.Page{Low: low, High: high, Right: right, List: list}
}

// refs has an entry of a leaf for each key.
func refs(of ...string) []api.Entry {
	var list []api.Entry
	for at, key := range of {
		list = append(list, ref(key, at+1))
	}
	return list
}

// children has an entry of an inner page for each key.
func children(of ...string) []api.Entry {
	var list []api.Entry
	for at, key := range of {
		list = append(list, child(key, at+1))
	}
	return list
}

func put(e api.Entry) api.Delta      { return api.Delta{Kind: 1, Entry: e} }
func remove(key string) api.Delta    { return api.Delta{Kind: 2, Key: key} }
func merge(right api.Page) api.Delta { return api.Delta{Kind: 4, Right: right} }
func gone(to int) api.Delta          { return api.Delta{Kind: 5, Page: to} }

func split(key string, to int) api.Delta { return api.Delta{Kind: 3, Key: key, Page: to} }

// equal holds pages against each other by the test's own eyes.
func equal(a, b api.Page) bool {
	return a.Leaf == b.Leaf && a.Low == b.Low && a.High == b.High && a.Right == b.Right && len(a.List) == len(b.List) && slices.Equal(a.List, b.List)
}

func isZero(p api.Page) bool { return equal(p, api.Page{}) && p.List == nil }

func equalDelta(a, b api.Delta) bool {
	return a.Kind == b.Kind && a.Entry == b.Entry && a.Key == b.Key && a.Page == b.Page && equal(a.Right, b.Right)
}

func want(t *testing.T, what string, got, wanted api.Errno) {
	t.Helper()
	if got != wanted {
		t.Errorf("%s answered %d, want %d", what, got, wanted)
	}
}

func wantApply(t *testing.T, p api.Page, d api.Delta, wanted api.Page) {
	t.Helper()
	if got, e := delta.Apply(p, d); e != api.OK || !equal(got, wanted) {
		t.Errorf("Apply(%v, %v) = %v, %d, want %v", p, d, got, e, wanted)
	}
	wantFold(t, p, []api.Delta{d}, wanted)
}

func refusesApply(t *testing.T, p api.Page, d api.Delta, wanted api.Errno) {
	t.Helper()
	if got, e := delta.Apply(p, d); e != wanted || !isZero(got) {
		t.Errorf("Apply(%v, %v) = %v, %d, want %d alone", p, d, got, e, wanted)
	}
	refusesFold(t, p, []api.Delta{d}, wanted)
}

func wantFold(t *testing.T, p api.Page, l []api.Delta, wanted api.Page) {
	t.Helper()
	if got, e := delta.Fold(p, l...); e != api.OK || !equal(got, wanted) {
		t.Errorf("Fold(%v, %v) = %v, %d, want %v", p, l, got, e, wanted)
	}
}

func refusesFold(t *testing.T, p api.Page, l []api.Delta, wanted api.Errno) {
	t.Helper()
	if got, e := delta.Fold(p, l...); e != wanted || !isZero(got) {
		t.Errorf("Fold(%v, %v) = %v, %d, want %d alone", p, l, got, e, wanted)
	}
}

func wantLook(t *testing.T, p api.Page, key string, l []api.Delta, wanted api.Spot) {
	t.Helper()
	if got, e := delta.Look(p, key, l...); e != api.OK || got != wanted {
		t.Errorf("Look(%v, %q, %v) = %v, %d, want %v", p, key, l, got, e, wanted)
	}
}

func refusesLook(t *testing.T, p api.Page, key string, l []api.Delta, wanted api.Errno) {
	t.Helper()
	if got, e := delta.Look(p, key, l...); e != wanted || got != (api.Spot{}) {
		t.Errorf("Look(%v, %q, %v) = %v, %d, want %d alone", p, key, l, got, e, wanted)
	}
}

func wantUndo(t *testing.T, p api.Page, d, wanted api.Delta) {
	t.Helper()
	if got, is := delta.Undo(p, d); !is || !equalDelta(got, wanted) {
		t.Errorf("Undo(%v, %v) = %v, %v, want %v", p, d, got, is, wanted)
	}
}

func noUndo(t *testing.T, p api.Page, d api.Delta) {
	t.Helper()
	if got, is := delta.Undo(p, d); is || !equalDelta(got, api.Delta{}) || got.Right.List != nil {
		t.Errorf("Undo(%v, %v) = %v, %v, want none", p, d, got, is)
	}
}

// The chapter's examples.
func TestExamples(t *testing.T) {
	base := leaf("", "", 0, ref("a", 1))
	l := []api.Delta{split("b", 4), put(ref("c", 2))}
	wantLook(t, base, "c", l, api.Spot{Go: 4})
	wantLook(t, base, "a", l, api.Spot{Entry: ref("a", 1), Found: true})
	for _, key := range []string{"", "a", "c", "\xff"} {
		wantLook(t, base, key, append([]api.Delta{gone(2)}, l...), api.Spot{Go: 2})
		wantLook(t, base, key, []api.Delta{gone(2)}, api.Spot{Go: 2})
	}
}

// P9.1: deltas that may be.
func TestDeltasThatMayBe(t *testing.T) {
	long := strings.Repeat("k", 1000)
	for _, d := range []api.Delta{
		put(ref("a", 1)),
		put(child("a", 1)),
		put(api.Entry{}),
		put(api.Entry{Key: long}),
		put(api.Entry{Child: -1, Ref: api.Handle{Slot: -1, Gen: -1}}),
		remove("a"),
		remove(""),
		remove(long),
		split("a", 1),
		split("\x00", math.MaxInt),
		split(long, 1),
		merge(leaf("", "", 0)),
		merge(leaf("b", "d", 3, refs("b", "c")...)),
		merge(inner("b", "", 0, children("b", "c")...)),
		gone(1),
		gone(math.MaxInt),
	} {
		want(t, "Check", delta.Check(d), api.OK)
		d.Kind += 5 // no longer one of the five
		want(t, "Check", delta.Check(d), api.ErrDelta)
	}
}

// P9.1: deltas that may not be, each for one cause.
func TestDeltasThatMayNotBe(t *testing.T) {
	for what, d := range map[string]api.Delta{
		"the zero delta":              {},
		"the kind 6":                  {Kind: 6},
		"a kind below 0":              {Kind: -1, Key: "a"},
		"the least kind":              {Kind: math.MinInt},
		"the greatest kind":           {Kind: math.MaxInt},
		"a split to 0":                split("a", 0),
		"a split to a page below 0":   split("a", -1),
		"a split at the empty key":    split("", 1),
		"gone to 0":                   gone(0),
		"gone to a page below 0":      gone(math.MinInt),
		"a merge of the zero page":    merge(api.Page{}),
		"a merge of an empty range":   merge(leaf("b", "b", 0)),
		"a merge of Right below 0":    merge(leaf("", "", -1)),
		"a merge of falling keys":     merge(leaf("", "", 0, refs("b", "a")...)),
		"a merge of two the same":     merge(leaf("", "", 0, refs("a", "a")...)),
		"a merge of a key out":        merge(leaf("b", "d", 0, refs("a")...)),
		"a merge of a leaf's child":   merge(leaf("", "", 0, child("a", 1))),
		"a merge of an inner's ref":   merge(inner("", "", 0, ref("", 1))),
		"a merge of an inner's first": merge(inner("", "", 0, child("a", 1))),
	} {
		if e := delta.Check(d); e != api.ErrDelta {
			t.Errorf("Check of %s answered %d", what, e)
		}
	}
}

// P9.1: a field that a kind does not name, and that is not zero.
func TestFieldsThatAreNotNamed(t *testing.T) {
	fields := map[string]func(*api.Delta){
		"Entry": func(d *api.Delta) { d.Entry.Key = "x" },
		"Slot":  func(d *api.Delta) { d.Entry.Ref.Slot = 1 },
		"Gen":   func(d *api.Delta) { d.Entry.Ref.Gen = 1 },
		"Child": func(d *api.Delta) { d.Entry.Child = 1 },
		"Key":   func(d *api.Delta) { d.Key = "x" },
		"Page":  func(d *api.Delta) { d.Page = 1 },
		"Leaf":  func(d *api.Delta) { d.Right.Leaf = true },
		"Low":   func(d *api.Delta) { d.Right.Low = "b" },
		"High":  func(d *api.Delta) { d.Right.High = "x" },
		"Right": func(d *api.Delta) { d.Right.Right = 1 },
		"List":  func(d *api.Delta) { d.Right.List = []api.Entry{{}} },
	}
	entry, right := []string{"Entry", "Slot", "Gen", "Child"}, []string{"Leaf", "Low", "High", "Right", "List"}
	for _, c := range []struct {
		d     api.Delta
		named []string
	}{
		{put(ref("a", 1)), entry},
		{put(api.Entry{}), entry},
		{remove("a"), []string{"Key"}},
		{remove(""), []string{"Key"}},
		{split("a", 1), []string{"Key", "Page"}},
		{merge(leaf("b", "", 0)), right},
		{gone(1), []string{"Page"}},
	} {
		want(t, "Check", delta.Check(c.d), api.OK)
		for name, set := range fields {
			d := c.d
			set(&d)
			if !slices.Contains(c.named, name) {
				want(t, "Check of kind and "+name, delta.Check(d), api.ErrDelta)
				refusesApply(t, leaf("", "", 0, refs("a")...), d, api.ErrDelta)
			} else if d.Kind != api.DeltaMerge {
				want(t, "Check of kind and "+name, delta.Check(d), api.OK)
			}
		}
	}
}

// P9.2: Put is page.Put.
func TestApplyPut(t *testing.T) {
	p := leaf("b", "q", 4, refs("c", "e")...)
	c, e := p.List[0], p.List[1]
	wantApply(t, p, put(ref("b", 9)), leaf("b", "q", 4, ref("b", 9), c, e))
	wantApply(t, p, put(ref("c", 9)), leaf("b", "q", 4, ref("c", 9), e))
	wantApply(t, p, put(ref("d", 9)), leaf("b", "q", 4, c, ref("d", 9), e))
	wantApply(t, p, put(ref("p", 9)), leaf("b", "q", 4, c, e, ref("p", 9)))
	wantApply(t, p, put(child("d", 9)), leaf("b", "q", 4, c, child("d", 9), e))
	wantApply(t, inner("b", "", 4, child("b", 1)), put(child("c", 2)), inner("b", "", 4, child("b", 1), child("c", 2)))
	for _, key := range []string{"", "a\xff", "q", "z"} {
		refusesApply(t, p, put(ref(key, 9)), api.ErrOut)
	}
	refusesApply(t, leaf("b", "d", 0, refs("x")...), put(ref("x", 9)), api.ErrOut)
	refusesApply(t, leaf("d", "b", 0), put(ref("c", 9)), api.ErrOut)
}

// P9.2: Remove, of what there is and of what there is not.
func TestApplyRemove(t *testing.T) {
	p := leaf("b", "q", 4, refs("c", "e")...)
	c, e := p.List[0], p.List[1]
	wantApply(t, p, remove("c"), leaf("b", "q", 4, e))
	wantApply(t, p, remove("e"), leaf("b", "q", 4, c))
	for _, key := range []string{"b", "d", "c\x00", "p\xff"} {
		wantApply(t, p, remove(key), p)
	}
	wantApply(t, leaf("", "", 0), remove(""), leaf("", "", 0))
	wantApply(t, inner("b", "", 4, children("b", "c")...), remove("b"), inner("b", "", 4, child("c", 2)))
	// Of an inner page the one that page.Find would tell is not meant.
	wantApply(t, inner("b", "", 4, children("b", "c")...), remove("bb"), inner("b", "", 4, children("b", "c")...))
	for _, key := range []string{"", "a", "q", "z"} {
		refusesApply(t, p, remove(key), api.ErrOut)
	}
	// Whether it is there does not matter, if it is not in the range.
	refusesApply(t, leaf("b", "d", 0, refs("x")...), remove("x"), api.ErrOut)
	wantApply(t, leaf("", "", 0, refs("a", "c", "c", "d")...), remove("c"), leaf("", "", 0, ref("a", 1), ref("c", 3), ref("d", 4)))
}

// P9.2: Split cuts off what is not below its Key.
func TestApplySplit(t *testing.T) {
	p := leaf("b", "q", 4, refs("b", "d", "f")...)
	b, d, f := p.List[0], p.List[1], p.List[2]
	wantApply(t, p, split("b\x00", 9), leaf("b", "b\x00", 9, b))
	wantApply(t, p, split("d", 9), leaf("b", "d", 9, b))
	wantApply(t, p, split("d\x00", 9), leaf("b", "d\x00", 9, b, d))
	wantApply(t, p, split("f", 9), leaf("b", "f", 9, b, d))
	wantApply(t, p, split("p\xff", 9), leaf("b", "p\xff", 9, b, d, f))
	wantApply(t, leaf("", "", 0), split("\x00", 1), leaf("", "\x00", 1))
	wantApply(t, leaf("", "", 0, refs("x")...), split("m", 4), leaf("", "m", 4))
	wantApply(t, inner("b", "", 0, children("b", "d")...), split("d", 7), inner("b", "d", 7, child("b", 1)))
	for _, key := range []string{"a", "b", "q", "z"} {
		refusesApply(t, p, split(key, 9), api.ErrDelta)
	}
	refusesApply(t, leaf("d", "b", 0), split("c", 9), api.ErrDelta)
	refusesApply(t, leaf("d", "b", 0), split("e", 9), api.ErrDelta)
	// Pages that may not be: all that is below Key stays, in its order, also what is below Low.
	wantApply(t, leaf("c", "y", -1, refs("m", "c", "z", "a", "d", "m")...), split("m", 2), leaf("c", "m", 2, ref("c", 2), ref("a", 4), ref("d", 5)))
}

// P9.2: Merge is page.Merge.
func TestApplyMerge(t *testing.T) {
	p := leaf("b", "d", 4, refs("b", "c")...)
	wantApply(t, p, merge(leaf("d", "f", 5, ref("d", 8))), leaf("b", "f", 5, ref("b", 1), ref("c", 2), ref("d", 8)))
	wantApply(t, p, merge(leaf("d", "", 0)), leaf("b", "", 0, refs("b", "c")...))
	wantApply(t, inner("", "d", 4, child("", 1)), merge(inner("d", "", 0, child("d", 2))), inner("", "", 0, child("", 1), child("d", 2)))
	refusesApply(t, p, merge(leaf("e", "f", 5)), api.ErrMerge)
	refusesApply(t, p, merge(leaf("c", "f", 5)), api.ErrMerge)
	refusesApply(t, p, merge(inner("d", "", 0, child("d", 2))), api.ErrMerge)
	refusesApply(t, leaf("b", "", 4), merge(leaf("", "f", 5)), api.ErrMerge)
	// A Right that may not be is told ahead of pages that do not stand side by side.
	refusesApply(t, p, merge(leaf("e", "e", 5)), api.ErrDelta)
	refusesApply(t, p, merge(leaf("d", "", -1)), api.ErrDelta)
	// A page that may not be has its entries still, ahead of those that come.
	wantApply(t, leaf("x", "d", 4, refs("z", "e", "a")...), merge(leaf("d", "f", 5, ref("e", 8))), leaf("x", "f", 5, ref("z", 1), ref("e", 2), ref("a", 3), ref("e", 8)))
}

// P9.2: Gone, of any page; Check comes first.
func TestApplyGone(t *testing.T) {
	for _, p := range []api.Page{{}, leaf("", "", 0), leaf("b", "a", -1, refs("x", "a")...), inner("", "", 2, child("", 1))} {
		refusesApply(t, p, gone(1), api.ErrGone)
		refusesApply(t, p, gone(0), api.ErrDelta)
		refusesApply(t, p, api.Delta{}, api.ErrDelta)
		refusesApply(t, p, split("", 1), api.ErrDelta)
		refusesApply(t, p, api.Delta{Kind: 1, Page: 1, Entry: ref("x", 1)}, api.ErrDelta)
	}
}

// P9.2: from the last delta, the oldest, to the first one.
func TestFold(t *testing.T) {
	p := leaf("", "", 0, ref("b", 1))
	wantFold(t, p, nil, p)
	wantFold(t, p, []api.Delta{put(ref("a", 3)), put(ref("a", 2))}, leaf("", "", 0, ref("a", 3), ref("b", 1)))
	wantFold(t, p, []api.Delta{remove("a"), put(ref("a", 2))}, p)
	wantFold(t, p, []api.Delta{put(ref("a", 2)), remove("a")}, leaf("", "", 0, ref("a", 2), ref("b", 1)))
	wantFold(t, p, []api.Delta{put(ref("b", 2)), remove("b")}, leaf("", "", 0, ref("b", 2)))
	wantFold(t, p, []api.Delta{split("b", 4), put(ref("c", 2)), put(ref("a", 3))}, leaf("", "b", 4, ref("a", 3)))
	back := []api.Delta{put(ref("c", 7)), merge(leaf("b", "x", 5, ref("b", 8), ref("d", 9))), split("b", 4), put(ref("c", 2)), put(ref("a", 3))}
	wantFold(t, p, back, leaf("", "x", 5, ref("a", 3), ref("b", 8), ref("c", 7), ref("d", 9)))
	twice := []api.Delta{merge(leaf("m", "", 0, ref("z", 8))), merge(leaf("k", "m", 7, ref("k", 9))), split("k", 6), put(ref("a", 3))}
	wantFold(t, p, twice, leaf("", "", 0, ref("a", 3), ref("b", 1), ref("k", 9), ref("z", 8)))
}

// P9.2: the first error is that of the oldest delta that is refused.
func TestFoldRefuses(t *testing.T) {
	p := leaf("b", "q", 4, refs("c", "e")...)
	bad, out, off, away := api.Delta{}, put(ref("z", 1)), merge(leaf("d", "", 0)), gone(3)
	all := []api.Delta{bad, out, off, away}
	errs := []api.Errno{api.ErrDelta, api.ErrOut, api.ErrMerge, api.ErrGone}
	for at, d := range all {
		for _, other := range all {
			refusesFold(t, p, []api.Delta{other, d}, errs[at])
			refusesFold(t, p, []api.Delta{other, put(ref("d", 1)), d, remove("c")}, errs[at])
			refusesFold(t, p, []api.Delta{put(ref("d", 1)), other, d}, errs[at])
		}
	}
	// What a delta says of the range counts for those that are newer, and for no others.
	refusesFold(t, p, []api.Delta{put(ref("f", 1)), split("f", 5)}, api.ErrOut)
	wantFold(t, p, []api.Delta{split("f", 5), put(ref("f", 1))}, leaf("b", "f", 5, refs("c", "e")...))
	refusesFold(t, p, []api.Delta{remove("z"), split("f", 5)}, api.ErrOut)
	refusesFold(t, p, []api.Delta{split("f", 6), split("f", 5)}, api.ErrDelta)
	refusesFold(t, p, []api.Delta{merge(leaf("q", "", 0)), split("f", 5)}, api.ErrMerge)
	refusesFold(t, p, []api.Delta{merge(leaf("q", "", 0)), merge(leaf("q", "", 0))}, api.ErrMerge)
	wantFold(t, p, []api.Delta{put(ref("z", 1)), merge(leaf("q", "", 0))}, leaf("b", "", 0, ref("c", 1), ref("e", 2), ref("z", 1)))
}

// P9.3: a newest delta that is Gone says all, if Check takes it.
func TestLookGone(t *testing.T) {
	p := leaf("b", "q", 4, refs("c", "e")...)
	for _, behind := range [][]api.Delta{nil, {put(ref("d", 1))}, {put(ref("z", 1))}, {{}}, {gone(7)}, {gone(0)}} {
		for _, key := range []string{"", "a", "c", "q", "z"} {
			wantLook(t, p, key, append([]api.Delta{gone(2)}, behind...), api.Spot{Go: 2})
			wantLook(t, api.Page{}, key, append([]api.Delta{gone(2)}, behind...), api.Spot{Go: 2})
		}
	}
	// One that Check refuses says what Fold says of it, and so does one that is not the newest.
	refusesLook(t, p, "c", []api.Delta{gone(0)}, api.ErrDelta)
	refusesLook(t, p, "c", []api.Delta{{Kind: 5, Page: 2, Key: "c"}}, api.ErrDelta)
	refusesLook(t, p, "c", []api.Delta{gone(-1), put(ref("z", 1))}, api.ErrOut)
	refusesLook(t, p, "c", []api.Delta{put(ref("c", 1)), gone(2)}, api.ErrGone)
	refusesLook(t, p, "c", []api.Delta{put(ref("c", 1)), gone(2), {}}, api.ErrDelta)
	refusesLook(t, p, "c", []api.Delta{gone(0), gone(2)}, api.ErrGone)
}

// P9.3: Fold's error comes first, whatever a newer delta says of the key, and wherever the key is.
func TestLookRefuses(t *testing.T) {
	p := leaf("b", "q", 0, refs("c", "e")...)
	for _, key := range []string{"", "a", "c", "d", "q", "z"} {
		refusesLook(t, p, key, []api.Delta{put(ref("c", 1)), put(ref("z", 1))}, api.ErrOut)
		refusesLook(t, p, key, []api.Delta{put(ref("c", 1)), {}}, api.ErrDelta)
		refusesLook(t, p, key, []api.Delta{remove("c"), merge(leaf("r", "", 0))}, api.ErrMerge)
	}
}

// P9.3: of a leaf: what was put or removed last, or base's.
func TestLookInALeaf(t *testing.T) {
	p := leaf("b", "q", 4, refs("c", "e")...)
	c, none := api.Spot{Entry: ref("c", 1), Found: true}, api.Spot{}
	wantLook(t, p, "c", nil, c)
	wantLook(t, p, "b", nil, none)
	wantLook(t, p, "d", nil, none)
	wantLook(t, p, "p\xff", nil, none)
	wantLook(t, p, "c", []api.Delta{put(ref("d", 9)), remove("e")}, c)
	wantLook(t, p, "c", []api.Delta{put(ref("c", 9))}, api.Spot{Entry: ref("c", 9), Found: true})
	wantLook(t, p, "c", []api.Delta{put(ref("c", 9)), put(ref("c", 8)), remove("c")}, api.Spot{Entry: ref("c", 9), Found: true})
	wantLook(t, p, "c", []api.Delta{remove("c")}, none)
	wantLook(t, p, "c", []api.Delta{remove("c"), put(ref("c", 9))}, none)
	wantLook(t, p, "c", []api.Delta{put(ref("d", 1)), remove("c"), put(ref("c", 9))}, none)
	wantLook(t, p, "d", []api.Delta{remove("c"), put(ref("d", 9)), remove("d")}, api.Spot{Entry: ref("d", 9), Found: true})
	// What an entry says beside its Key is not asked; of a leaf nothing says where to go on.
	odd := api.Entry{Key: "d", Child: 5}
	wantLook(t, p, "d", []api.Delta{put(odd)}, api.Spot{Entry: odd, Found: true})
	wantLook(t, leaf("", "", 0, api.Entry{}), "", nil, api.Spot{Found: true})
	// Pages that may not be: the first one with the key.
	twice := leaf("", "", 0, refs("m", "c", "x", "c", "a", "c")...)
	wantLook(t, twice, "c", nil, api.Spot{Entry: ref("c", 2), Found: true})
	wantLook(t, twice, "c", []api.Delta{remove("c")}, api.Spot{Entry: ref("c", 4), Found: true})
	wantLook(t, twice, "c", []api.Delta{remove("c"), put(ref("c", 9))}, api.Spot{Entry: ref("c", 4), Found: true})
	wantLook(t, twice, "c", []api.Delta{put(ref("c", 9)), remove("c")}, api.Spot{Entry: ref("c", 9), Found: true})
	wantLook(t, twice, "c", []api.Delta{remove("c"), remove("c"), remove("c")}, none)
	early := leaf("", "d", 0, refs("x")...)
	wantLook(t, early, "x", []api.Delta{merge(leaf("d", "", 0, ref("x", 9)))}, api.Spot{Entry: ref("x", 1), Found: true})
	wantLook(t, early, "x", []api.Delta{remove("x"), merge(leaf("d", "", 0, ref("x", 9)))}, api.Spot{Entry: ref("x", 9), Found: true})
}

// P9.3: a key that was cut off, and what was merged.
func TestLookBesideSplitsAndMerges(t *testing.T) {
	p := leaf("b", "q", 4, refs("c", "e", "m")...)
	cut := []api.Delta{split("d", 7), put(ref("f", 8))}
	for _, key := range []string{"d", "e", "f", "m", "q", "z"} {
		wantLook(t, p, key, cut, api.Spot{Go: 7})
	}
	wantLook(t, p, "c", cut, api.Spot{Entry: ref("c", 1), Found: true})
	again := append([]api.Delta{merge(leaf("d", "s", 9, ref("f", 5), ref("q", 6)))}, cut...)
	wantLook(t, p, "e", again, api.Spot{})
	wantLook(t, p, "m", again, api.Spot{})
	wantLook(t, p, "f", again, api.Spot{Entry: ref("f", 5), Found: true})
	wantLook(t, p, "q", again, api.Spot{Entry: ref("q", 6), Found: true})
	wantLook(t, p, "c", again, api.Spot{Entry: ref("c", 1), Found: true})
	wantLook(t, p, "s", again, api.Spot{Go: 9})
	wantLook(t, p, "f", append([]api.Delta{remove("f")}, again...), api.Spot{})
	wantLook(t, p, "e", append([]api.Delta{put(ref("e", 3))}, again...), api.Spot{Entry: ref("e", 3), Found: true})
	wantLook(t, p, "f", append([]api.Delta{split("e", 2)}, again...), api.Spot{Go: 2})
}

// P9.3: a key that is not in the range.
func TestLookOut(t *testing.T) {
	p := leaf("b", "q", 4, refs("a", "c", "q", "z")...)
	for _, key := range []string{"", "a", "a\xff"} {
		refusesLook(t, p, key, nil, api.ErrOut)
		refusesLook(t, p, key, []api.Delta{split("d", 7)}, api.ErrOut)
	}
	for _, key := range []string{"q", "q\x00", "z", "\xff"} {
		wantLook(t, p, key, nil, api.Spot{Go: 4})
		wantLook(t, p, key, []api.Delta{split("d", 7)}, api.Spot{Go: 7})
		refusesLook(t, leaf("b", "q", 0, refs("c", "z")...), key, nil, api.ErrOut)
	}
	// Pages that may not be: a Right below 0 is a Right; a range without a key has all above its Low to its right.
	wantLook(t, leaf("b", "q", -3), "z", nil, api.Spot{Go: -3})
	wantLook(t, leaf("d", "b", 5, refs("d")...), "d", nil, api.Spot{Go: 5})
	refusesLook(t, leaf("d", "b", 5, refs("c")...), "c", nil, api.ErrOut)
	wantLook(t, inner("b", "q", 4, child("b", 1)), "q", nil, api.Spot{Go: 4})
	refusesLook(t, inner("b", "q", 4, child("b", 1)), "a", nil, api.ErrOut)
	refusesLook(t, inner("b", "q", 0, child("b", 1)), "q", nil, api.ErrOut)
}

// P9.3: of an inner page: the entry in whose child the key is.
func TestLookInAnInnerPage(t *testing.T) {
	p := inner("b", "q", 4, children("b", "d", "f")...)
	at := func(e api.Entry) api.Spot { return api.Spot{Entry: e, Found: true, Go: e.Child} }
	for key, e := range map[string]api.Entry{"b": p.List[0], "c\xff": p.List[0], "d": p.List[1], "e": p.List[1], "f": p.List[2], "p": p.List[2]} {
		wantLook(t, p, key, nil, at(e))
	}
	wantLook(t, p, "e", []api.Delta{put(child("e", 9))}, at(child("e", 9)))
	wantLook(t, p, "ee", []api.Delta{put(child("e", 9))}, at(child("e", 9)))
	wantLook(t, p, "dd", []api.Delta{put(child("e", 9))}, at(child("d", 2)))
	wantLook(t, p, "e", []api.Delta{remove("d")}, at(child("b", 1)))
	wantLook(t, p, "d", []api.Delta{put(child("d", 8)), remove("d")}, at(child("d", 8)))
	wantLook(t, p, "g", []api.Delta{split("f", 7)}, api.Spot{Go: 7})
	wantLook(t, p, "e", []api.Delta{split("f", 7)}, at(child("d", 2)))
	wantLook(t, p, "r", []api.Delta{merge(inner("q", "", 0, child("q", 6)))}, at(child("q", 6)))
	// There is none up to the key.
	refusesLook(t, p, "c", []api.Delta{remove("b")}, api.ErrOut)
	refusesLook(t, api.Page{}, "", nil, api.ErrOut)
	refusesLook(t, inner("", "", 3), "x", nil, api.ErrOut)
	// Pages that may not be: the last one of those up to the key, whatever its Child is.
	odd := inner("", "", 3, child("c", 1), child("a", 2), child("x", 3), child("b", 0))
	wantLook(t, odd, "d", nil, api.Spot{Entry: child("b", 0), Found: true})
	wantLook(t, odd, "a", nil, at(child("a", 2)))
	wantLook(t, odd, "z", []api.Delta{remove("b")}, at(child("x", 3)))
	wantLook(t, p, "e", []api.Delta{put(ref("e", 9))}, api.Spot{Entry: ref("e", 9), Found: true})
}

// P9.4: more than six.
func TestLong(t *testing.T) {
	for n := range 20 {
		if delta.Long(make([]api.Delta, n)) != (n >= 7) {
			t.Errorf("Long of %d is %v", n, n < 7)
		}
	}
	if delta.Long(nil) || delta.Long(make([]api.Delta, 3, 30)) {
		t.Error("Long counts what is not there")
	}
}

// P9.4: what undoes a Put or a Remove.
func TestUndo(t *testing.T) {
	p := leaf("b", "q", 4, refs("c", "e")...)
	wantUndo(t, p, put(ref("c", 9)), put(ref("c", 1)))
	wantUndo(t, p, put(ref("c", 1)), put(ref("c", 1)))
	wantUndo(t, p, put(ref("d", 9)), remove("d"))
	wantUndo(t, p, put(ref("b", 9)), remove("b"))
	wantUndo(t, p, remove("e"), put(ref("e", 2)))
	wantUndo(t, p, remove("d"), remove("d"))
	wantUndo(t, leaf("", "", 0), remove(""), remove(""))
	wantUndo(t, leaf("", "", 0, refs("")...), remove(""), put(ref("", 1)))
	// Of an inner page too it is the entry by that Key, not the one in whose child it is.
	q := inner("b", "q", 4, children("b", "e")...)
	wantUndo(t, q, put(child("c", 9)), remove("c"))
	wantUndo(t, q, put(child("e", 9)), put(child("e", 2)))
	wantUndo(t, q, remove("c"), remove("c"))
	wantUndo(t, q, remove("b"), put(child("b", 1)))
	// The first of those by that Key.
	twice := leaf("", "", 0, refs("m", "c", "x", "c")...)
	wantUndo(t, twice, put(ref("c", 9)), put(ref("c", 2)))
	wantUndo(t, twice, remove("c"), put(ref("c", 2)))
}

// P9.4: of others there is none, and of what Apply refuses.
func TestNoUndo(t *testing.T) {
	p := leaf("b", "q", 4, refs("c", "e", "z")...)
	noUndo(t, p, split("d", 1))
	noUndo(t, p, merge(leaf("q", "", 0)))
	noUndo(t, p, gone(1))
	noUndo(t, p, api.Delta{})
	noUndo(t, p, put(ref("z", 1)))
	noUndo(t, p, put(ref("a", 1)))
	noUndo(t, p, remove("z"))
	noUndo(t, p, remove(""))
	noUndo(t, p, split("z", 1))
	noUndo(t, p, api.Delta{Kind: 1, Entry: ref("c", 1), Page: 1})
	noUndo(t, p, api.Delta{Kind: 2, Key: "c", Entry: ref("c", 1)})
}

// P9.4: Same looks at each field; Clone has all of them.
func TestSameAndClone(t *testing.T) {
	full := func() api.Delta {
		return api.Delta{Kind: 4, Entry: api.Entry{Key: "a", Ref: api.Handle{Slot: 1, Gen: 2}, Child: 3}, Key: "b", Page: 4, Right: leaf("c", "e", 5, refs("c", "d")...)}
	}
	list := []api.Delta{full(), {}}
	for _, change := range []func(*api.Delta){
		func(d *api.Delta) { d.Kind++ },
		func(d *api.Delta) { d.Entry.Key = "x" },
		func(d *api.Delta) { d.Entry.Ref.Slot++ },
		func(d *api.Delta) { d.Entry.Ref.Gen++ },
		func(d *api.Delta) { d.Entry.Child++ },
		func(d *api.Delta) { d.Key = "x" },
		func(d *api.Delta) { d.Page++ },
		func(d *api.Delta) { d.Right.Leaf = false },
		func(d *api.Delta) { d.Right.Low = "x" },
		func(d *api.Delta) { d.Right.High = "x" },
		func(d *api.Delta) { d.Right.Right++ },
		func(d *api.Delta) { d.Right.List[1].Ref.Gen++ },
		func(d *api.Delta) { d.Right.List = d.Right.List[:1] },
		func(d *api.Delta) { d.Right.List = nil },
	} {
		d := full()
		change(&d)
		list = append(list, d)
	}
	for i, a := range list {
		for j, b := range list {
			if delta.Same(a, b) != (i == j) {
				t.Errorf("Same(%v, %v) = %v", a, b, i != j)
			}
		}
		if c := delta.Clone(a); !equalDelta(a, c) || !delta.Same(a, c) {
			t.Errorf("Clone(%v) = %v", a, c)
		}
	}
}
