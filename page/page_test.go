package page_test

import (
	"math"
	"slices"
	"strings"
	"testing"

	"cresset/api"
	"cresset/page"
)

// ref is an entry of a leaf.
func ref(key string, slot int) api.Entry {
	return api.Entry{Key: key, Ref: api.Handle{Slot: slot, Gen: 1}}
}

// child is an entry of an inner page.
func child(key string, id int) api.Entry { return api.Entry{Key: key, Child: id} }

func leaf(low, high string, right int, list ...api.Entry) api.Page {
	return api.Page{Leaf: true, Low: low, High: high, Right: right, List: list}
}

func inner(low, high string, right int, list ...api.Entry) api.Page {
	return api.Page{Low: low, High: high, Right: right, List: list}
}

// refs has an entry of a leaf for each key.
func refs(of ...string) []api.Entry {
	var list []api.Entry
	for at, key := range of {
		list = append(list, ref(key, at+1))
	}
	return list
}

// children has an entry of an inner page for each key.
func children(of ...string) []api.Entry {
	var list []api.Entry
	for at, key := range of {
		list = append(list, child(key, at+1))
	}
	return list
}

// equal holds pages against each other by the test's own eyes.
func equal(a, b api.Page) bool {
	x, y := a.List, b.List
	return a.Leaf == b.Leaf && a.Low == b.Low && a.High == b.High && a.Right == b.Right && len(x) == len(y) && slices.Equal(x, y)
}

func isZero(p api.Page) bool { return equal(p, api.Page{}) && p.List == nil }

func want(t *testing.T, what string, got, wanted api.Errno) {
	t.Helper()
	if got != wanted {
		t.Errorf("%s answered %d, want %d", what, got, wanted)
	}
}

func wantPage(t *testing.T, what string, got, wanted api.Page) {
	t.Helper()
	if !equal(got, wanted) {
		t.Errorf("%s is %v, want %v", what, got, wanted)
	}
}

func wantFind(t *testing.T, p api.Page, key string, wanted api.Entry) {
	t.Helper()
	if e, is := page.Find(p, key); e != wanted || !is {
		t.Errorf("Find(%v, %q) = %v, %v, want %v", p, key, e, is, wanted)
	}
}

func wantNone(t *testing.T, p api.Page, key string) {
	t.Helper()
	if e, is := page.Find(p, key); is || e != (api.Entry{}) {
		t.Errorf("Find(%v, %q) = %v, %v, want none", p, key, e, is)
	}
}

func wantPut(t *testing.T, p api.Page, e api.Entry, wanted ...api.Entry) {
	t.Helper()
	got, f := page.Put(p, e)
	want(t, "Put", f, api.OK)
	p.List = wanted
	wantPage(t, "Put", got, p)
}

func wantRemove(t *testing.T, p api.Page, key string, wanted ...api.Entry) {
	t.Helper()
	got, f := page.Remove(p, key)
	want(t, "Remove", f, api.OK)
	p.List = wanted
	wantPage(t, "Remove", got, p)
}

func wantSplit(t *testing.T, p api.Page, id int, left, right api.Page) {
	t.Helper()
	l, r, f := page.Split(p, id)
	want(t, "Split", f, api.OK)
	wantPage(t, "the left page", l, left)
	wantPage(t, "the right page", r, right)
}

func refusesSplit(t *testing.T, p api.Page, id int, wanted api.Errno) {
	t.Helper()
	l, r, f := page.Split(p, id)
	want(t, "Split", f, wanted)
	if !isZero(l) || !isZero(r) {
		t.Errorf("Split answered %v and %v beside an error", l, r)
	}
}

func refusesMerge(t *testing.T, p, q api.Page) {
	t.Helper()
	m, f := page.Merge(p, q)
	want(t, "Merge", f, api.ErrMerge)
	if !isZero(m) {
		t.Errorf("Merge answered %v beside an error", m)
	}
}

func wantFrom(t *testing.T, p api.Page, key string, wanted ...api.Entry) {
	t.Helper()
	if got := slices.Collect(page.From(p, key)); !slices.Equal(got, wanted) {
		t.Errorf("From(%v, %q) tells %v, want %v", p, key, got, wanted)
	}
}

// The chapter's examples.
func TestExamples(t *testing.T) {
	p := leaf("", "", 0, refs("a", "c", "e", "g")...)
	wantSplit(t, p, 9, leaf("", "e", 9, ref("a", 1), ref("c", 2)), leaf("e", "", 0, ref("e", 3), ref("g", 4)))
	wantFind(t, inner("", "", 0, child("", 1), child("c", 2)), "b", child("", 1))
}

// P7.1: pages that may be.
func TestPagesThatMayBe(t *testing.T) {
	long := strings.Repeat("k", 1000)
	for _, p := range []api.Page{
		{Leaf: true},
		leaf("a", "b", 0),
		leaf("a", "", 7),
		leaf("", "\x00", math.MaxInt),
		leaf("", "\x00", 0, ref("", 1)),
		leaf("a", "a\x00", 0, ref("a", 1)),
		leaf("", "", 0, refs("", "\x00", "a", "a\x00", "ab", "b", "\x7f", "\x80", "\xff", "\xff\xff")...),
		leaf("b", "d", 3, refs("b", "c\xff\xff")...),
		leaf("a", "b", 0, api.Entry{Key: "a"}),
		leaf("a", "b", 0, api.Entry{Key: "a", Ref: api.Handle{Slot: -5, Gen: -9}}),
		leaf("", "", 0, refs("0", "1", "10", "2", "3", "4", "5", "6", "7", "8", "9")...),
		leaf(long, "", 0, refs(long, long+"x")...),
		inner("", "", 0, child("", 1)),
		inner("a", "c", 4, child("a", 1), child("b", math.MaxInt)),
		inner("a", "c", 4, child("a", 5), child("aa", 5), child("b", 5)),
		inner("\x80", "", 0, child("\x80", 1), child("\xff", 2)),
		inner(long, "", 0, child(long, 1)),
	} {
		want(t, "Check", page.Check(p), api.OK)
	}
}

// P7.1: pages that may not be, each for one cause.
func TestPagesThatMayNotBe(t *testing.T) {
	for what, p := range map[string]api.Page{
		"an empty range":                      leaf("a", "a", 0),
		"an empty range of falling ends":      leaf("b", "a", 0),
		"an empty range by a byte":            leaf("a\x00", "a", 0),
		"an empty range with entries":         leaf("b", "a", 0, ref("b", 1)),
		"an inner page's empty range":         inner("b", "b", 0, child("b", 1)),
		"Right below 0":                       leaf("", "", -1),
		"Right far below 0":                   leaf("", "", math.MinInt, ref("a", 1)),
		"an inner page's Right below 0":       inner("", "", -1, child("", 1)),
		"two the same":                        leaf("", "", 0, refs("a", "a")...),
		"the last ones the same":              leaf("", "", 0, refs("a", "b", "c", "c")...),
		"falling keys":                        leaf("", "", 0, refs("b", "a")...),
		"falling by a byte":                   leaf("", "", 0, refs("a\x00", "a")...),
		"falling keys in the middle":          leaf("", "", 0, refs("a", "c", "b", "d")...),
		"the order of signed bytes":           leaf("", "", 0, refs("\x80", "\x7f")...),
		"two empty keys":                      leaf("", "", 0, refs("", "")...),
		"a key below Low":                     leaf("b", "", 0, refs("a")...),
		"a key below Low by a byte":           leaf("b\x00", "", 0, refs("b", "c")...),
		"a key that is High":                  leaf("a", "c", 0, refs("a", "c")...),
		"a key above High":                    leaf("a", "c", 0, refs("a", "d")...),
		"a leaf with a child":                 leaf("", "", 0, api.Entry{Key: "a", Child: 1}),
		"a leaf with a ref and a child":       leaf("", "", 0, ref("a", 1), api.Entry{Key: "b", Ref: api.Handle{Slot: 1, Gen: 1}, Child: 1}),
		"a leaf with a child below 0":         leaf("", "", 0, ref("a", 1), api.Entry{Key: "b", Child: -1}),
		"an inner page with a slot":           inner("", "", 0, api.Entry{Child: 1, Ref: api.Handle{Slot: 1}}),
		"an inner page with a Gen":            inner("", "", 0, child("", 1), api.Entry{Key: "b", Child: 1, Ref: api.Handle{Gen: 1}}),
		"a child that is 0":                   inner("", "", 0, child("", 1), child("b", 0)),
		"a child below 0":                     inner("", "", 0, child("", -1)),
		"an inner page without entries":       inner("", "", 0),
		"a first key above Low":               inner("a", "", 0, child("b", 1)),
		"a first key above Low by a byte":     inner("", "", 0, child("\x00", 1)),
		"an inner page's key below Low":       inner("b", "", 0, child("a", 1), child("b", 2)),
		"an inner page's key that is High":    inner("a", "c", 0, child("a", 1), child("c", 2)),
		"an inner page's two the same":        inner("a", "", 0, child("a", 1), child("a", 2)),
		"an inner page's falling keys":        inner("a", "", 0, child("a", 1), child("c", 2), child("b", 3)),
		"the zero page, which is inner":       {},
		"the entries of an inner page, alone": leaf("", "", 0, child("", 1), child("c", 2)),
		"the entries of a leaf, alone":        inner("a", "", 0, refs("a", "b")...),
	} {
		if got := page.Check(p); got != api.ErrPage {
			t.Errorf("Check of %s answered %d", what, got)
		}
	}
}

// P7.1: Has asks for the range alone, Low being in it and High not.
func TestHas(t *testing.T) {
	for _, c := range []struct {
		p   api.Page
		key string
		is  bool
	}{
		{leaf("b", "d", 0), "b", true},
		{leaf("b", "d", 0), "c\xff", true},
		{leaf("b", "d", 0), "d", false},
		{leaf("b", "d", 0), "a\xff", false},
		{leaf("b", "d", 0), "", false},
		{leaf("b", "", 0), "\xff\xff", true},
		{leaf("", "", 0), "", true},
		{leaf("d", "b", 0), "c", false},
		{leaf("c", "c", 0), "c", false},
		{leaf("b", "d", 0, refs("x")...), "x", false},
		{leaf("b", "d", -1, refs("x")...), "c", true},
		{inner("b", "d", 0), "c", true},
		{inner("b", "d", 0, child("b", 1)), "a", false},
		{api.Page{}, "x", true},
	} {
		if got := page.Has(c.p, c.key); got != c.is {
			t.Errorf("Has(%v, %q) = %v", c.p, c.key, got)
		}
	}
}

// P7.1: of a leaf just the entry with the key.
func TestFindInALeaf(t *testing.T) {
	p := leaf("b", "q", 0, refs("b", "d", "f", "h", "k")...)
	for at, key := range []string{"b", "d", "f", "h", "k"} {
		wantFind(t, p, key, ref(key, at+1))
	}
	for _, key := range []string{"", "a", "b\x00", "c", "e", "g", "i", "l", "p", "q", "z", "D"} {
		wantNone(t, p, key)
	}
	wantNone(t, leaf("", "", 0), "")
	wantFind(t, leaf("", "", 0, refs("")...), "", ref("", 1))
	// An entry that is zero but for its Key is one all the same.
	wantFind(t, leaf("", "", 0, api.Entry{}), "", api.Entry{})
}

// P7.1: of an inner page the last one that is not above the key.
func TestFindInAnInnerPage(t *testing.T) {
	p := inner("b", "q", 0, children("b", "d", "f", "h", "k")...)
	for key, at := range map[string]int{"b": 1, "b\x00": 1, "c": 1, "d": 2, "e\xff": 2, "f": 3, "g": 3, "h": 4, "j": 4, "k": 5, "k\x00": 5, "p": 5, "q": 5, "\xff": 5} {
		wantFind(t, p, key, p.List[at-1])
	}
	for _, key := range []string{"", "a", "a\xff\xff"} {
		wantNone(t, p, key)
	}
	wantNone(t, inner("", "", 0), "a")
	wantFind(t, inner("", "", 0, child("", 7)), "", child("", 7))
	wantFind(t, inner("", "", 0, child("", 7)), "\xff", child("", 7))
}

// P7.1: pages that may not be are looked at from the first entry on.
func TestFindInAnyPage(t *testing.T) {
	twice := []api.Entry{ref("a", 1), ref("c", 2), ref("c", 3), ref("c", 4), ref("d", 5)}
	wantFind(t, leaf("", "", 0, twice...), "c", ref("c", 2))
	wantFind(t, inner("", "", 0, twice...), "c", ref("c", 4))
	wantFind(t, inner("", "", 0, twice...), "cc", ref("c", 4))
	falls := []api.Entry{ref("m", 1), ref("c", 2), ref("x", 3), ref("a", 4), ref("c", 5), ref("y", 6)}
	for at, key := range []string{"m", "c", "x", "a", "", "y"} {
		if key != "" {
			wantFind(t, leaf("", "", 0, falls...), key, falls[at])
		}
	}
	wantNone(t, leaf("", "", 0, falls...), "b")
	for key, at := range map[string]int{"a": 3, "b": 3, "c": 4, "m": 4, "w": 4, "x": 4, "y": 5, "z": 5} {
		wantFind(t, inner("", "", 0, falls...), key, falls[at])
	}
	wantNone(t, inner("", "", 0, falls...), "A")
	// What the range and the other fields say does not matter to it.
	wantFind(t, leaf("x", "y", -5, refs("a")...), "a", ref("a", 1))
	wantFind(t, inner("x", "b", -5, refs("a")...), "b", ref("a", 1))
}

// P7.2: at its place, or in the place of the one with its Key.
func TestPut(t *testing.T) {
	p := leaf("b", "q", 4, refs("c", "e", "g")...)
	c, e, g := p.List[0], p.List[1], p.List[2]
	wantPut(t, p, ref("b", 9), ref("b", 9), c, e, g)
	wantPut(t, p, ref("c", 9), ref("c", 9), e, g)
	wantPut(t, p, ref("c\x00", 9), c, ref("c\x00", 9), e, g)
	wantPut(t, p, ref("d", 9), c, ref("d", 9), e, g)
	wantPut(t, p, ref("e", 9), c, ref("e", 9), g)
	wantPut(t, p, ref("f", 9), c, e, ref("f", 9), g)
	wantPut(t, p, ref("g", 9), c, e, ref("g", 9))
	wantPut(t, p, ref("p\xff", 9), c, e, g, ref("p\xff", 9))
	wantPut(t, p, e, c, e, g)
	wantPut(t, leaf("", "", 0), ref("", 1), ref("", 1))
	wantPut(t, leaf("a", "", 2), ref("a", 1), ref("a", 1))
	q := inner("b", "q", 4, children("b", "e")...)
	wantPut(t, q, child("c", 9), child("b", 1), child("c", 9), child("e", 2))
	wantPut(t, q, child("b", 9), child("b", 9), child("e", 2))
	wantPut(t, q, child("p", 9), child("b", 1), child("e", 2), child("p", 9))
}

// P7.2: a full page takes more; what an entry says beside its Key is not asked.
func TestPutTakesAnyEntry(t *testing.T) {
	p := leaf("", "", 0, refs("a", "b", "c", "d", "e", "f", "g", "h", "i", "j")...)
	wantPut(t, p, ref("k", 1), append(slices.Clone(p.List), ref("k", 1))...)
	odd := api.Entry{Key: "b", Ref: api.Handle{Slot: -1, Gen: -1}, Child: -1}
	wantPut(t, leaf("", "", 0, refs("a")...), odd, ref("a", 1), odd)
	wantPut(t, inner("", "", 0, child("", 1)), odd, child("", 1), odd)
	wantPut(t, inner("", "", 0), odd, odd)
}

// P7.2: a key that is not in the range.
func TestPutOut(t *testing.T) {
	for _, c := range []struct {
		p   api.Page
		key string
	}{
		{leaf("b", "d", 0), "a\xff"},
		{leaf("b", "d", 0), ""},
		{leaf("b", "d", 0), "d"},
		{leaf("b", "d", 0), "e"},
		{leaf("b", "", 0), "a"},
		{leaf("d", "b", 0), "c"},
		{leaf("c", "c", 0), "c"},
		{leaf("b", "d", 0, refs("x")...), "x"}, // an entry with that Key is there
		{inner("b", "d", 0, child("b", 1)), "a"},
		{inner("b", "d", 0, child("b", 1)), "d"},
	} {
		got, f := page.Put(c.p, ref(c.key, 1))
		want(t, "Put", f, api.ErrOut)
		if !isZero(got) {
			t.Errorf("Put answered %v beside an error", got)
		}
	}
}

// P7.2: pages that may not be: the first one with the Key, or ahead of the first greater one.
func TestPutInAnyPage(t *testing.T) {
	a, c1, c2, m, x := ref("a", 1), ref("c", 2), ref("c", 3), ref("m", 4), ref("x", 5)
	twice := leaf("", "", 0, a, c1, c2, m)
	wantPut(t, twice, ref("c", 9), a, ref("c", 9), c2, m)
	wantPut(t, twice, ref("d", 9), a, c1, c2, ref("d", 9), m)
	wantPut(t, twice, ref("b", 9), a, ref("b", 9), c1, c2, m)
	falls := leaf("", "", -1, m, c1, x, a, c2)
	wantPut(t, falls, ref("c", 9), m, ref("c", 9), x, a, c2)
	wantPut(t, falls, ref("a", 9), m, c1, x, ref("a", 9), c2)
	wantPut(t, falls, ref("b", 9), ref("b", 9), m, c1, x, a, c2)
	wantPut(t, falls, ref("n", 9), m, c1, ref("n", 9), x, a, c2)
	wantPut(t, falls, ref("y", 9), m, c1, x, a, c2, ref("y", 9))
}

// P7.2: without the one with that Key.
func TestRemove(t *testing.T) {
	p := leaf("b", "q", 4, refs("c", "e", "g")...)
	c, e, g := p.List[0], p.List[1], p.List[2]
	wantRemove(t, p, "c", e, g)
	wantRemove(t, p, "e", c, g)
	wantRemove(t, p, "g", c, e)
	wantRemove(t, leaf("", "", 1, refs("")...), "")
	wantRemove(t, inner("b", "", 1, children("b", "c")...), "b", child("c", 2))
	wantRemove(t, inner("b", "", 1, children("b", "c")...), "c", child("b", 1))
	// Pages that may not be.
	wantRemove(t, leaf("x", "y", 1, refs("a", "b")...), "a", ref("b", 2))
	wantRemove(t, leaf("", "", 0, refs("a", "c", "c", "c")...), "c", ref("a", 1), ref("c", 3), ref("c", 4))
	wantRemove(t, leaf("", "", 0, refs("m", "c", "x", "c", "a")...), "c", ref("m", 1), ref("x", 3), ref("c", 4), ref("a", 5))
	wantRemove(t, leaf("", "", 0, refs("m", "c", "x", "c", "a")...), "a", ref("m", 1), ref("c", 2), ref("x", 3), ref("c", 4))
}

// P7.2: a Key that no entry has, in the range and out of it; of an inner page the one that Find would tell is not meant.
func TestRemoveNone(t *testing.T) {
	for _, key := range []string{"", "a", "b", "c\x00", "d", "p", "q", "z"} {
		for _, p := range []api.Page{leaf("b", "q", 4, refs("c", "e", "g")...), inner("c", "q", 4, children("c", "e", "g")...), leaf("b", "q", 0), inner("b", "q", 0), leaf("", "", 0, refs("m", "e", "g")...)} {
			got, f := page.Remove(p, key)
			want(t, "Remove", f, api.ErrNone)
			if !isZero(got) {
				t.Errorf("Remove answered %v beside an error", got)
			}
		}
	}
}

// P7.3: half stays, rounded down; of a leaf the shortest text parts.
func TestSplitLeaf(t *testing.T) {
	wantSplit(t, leaf("a", "z", 5, refs("b", "c")...), 1, leaf("a", "c", 1, ref("b", 1)), leaf("c", "z", 5, ref("c", 2)))
	wantSplit(t, leaf("a", "z", 5, refs("b", "c", "d")...), 6, leaf("a", "c", 6, ref("b", 1)), leaf("c", "z", 5, ref("c", 2), ref("d", 3)))
	nine := leaf("", "", 0, refs("a", "b", "c", "d", "eee", "effff", "g", "h", "i")...)
	wantSplit(t, nine, math.MaxInt, leaf("", "e", math.MaxInt, nine.List[:4]...), leaf("e", "", 0, nine.List[4:]...))
	close := leaf("", "", 3, refs("abcx", "abzyy")...)
	wantSplit(t, close, 8, leaf("", "abz", 8, close.List[0]), leaf("abz", "", 3, close.List[1]))
	begins := leaf("a", "c", 3, refs("a", "a\x00\x00")...)
	wantSplit(t, begins, 8, leaf("a", "a\x00", 8, begins.List[0]), leaf("a\x00", "c", 3, begins.List[1]))
	least := leaf("", "", 0, refs("", "\x00")...)
	wantSplit(t, least, 8, leaf("", "\x00", 8, least.List[0]), leaf("\x00", "", 0, least.List[1]))
}

// P7.3: of an inner page the first Key that goes parts, as it is.
func TestSplitInner(t *testing.T) {
	p := inner("a", "zz", 5, children("a", "abcx", "abzyy", "b", "c")...)
	wantSplit(t, p, 6, inner("a", "abzyy", 6, p.List[:2]...), inner("abzyy", "zz", 5, p.List[2:]...))
	p = inner("", "", 0, children("", "long key")...)
	wantSplit(t, p, 1, inner("", "long key", 1, p.List[0]), inner("long key", "", 0, p.List[1]))
}

// P7.3: a number that is none ahead of too few entries, that ahead of what can't be parted.
func TestSplitRefuses(t *testing.T) {
	two := leaf("", "", 0, refs("a", "b")...)
	falls := leaf("", "", 0, refs("b", "a")...)
	for _, id := range []int{0, -1, math.MinInt} {
		for _, p := range []api.Page{two, {}, {Leaf: true}, leaf("", "", 0, ref("a", 1)), falls, inner("", "", 0, children("", "a")...)} {
			refusesSplit(t, p, id, api.ErrArg)
		}
	}
	for _, p := range []api.Page{{}, {Leaf: true}, leaf("b", "a", -1, ref("a", 1)), inner("", "", 0, child("", 1))} {
		refusesSplit(t, p, 1, api.ErrSplit)
	}
	refusesSplit(t, falls, 1, api.ErrPage)
	refusesSplit(t, leaf("", "", 0, refs("a", "a")...), 1, api.ErrPage)
	refusesSplit(t, leaf("", "", 0, refs("", "")...), 1, api.ErrPage)
	refusesSplit(t, leaf("", "", 0, refs("a", "c", "b", "d")...), 1, api.ErrPage)
	refusesSplit(t, leaf("", "", 0, refs("a\x00", "a")...), 1, api.ErrPage)
	refusesSplit(t, leaf("", "", 0, refs("a", "z", "c")...), 0, api.ErrArg)
}

// P7.3: pages that may not be, where the two Keys at the middle can be parted.
func TestSplitAnyPage(t *testing.T) {
	p := leaf("x", "b", -3, refs("m", "a", "c", "b")...)
	wantSplit(t, p, 2, leaf("x", "c", 2, p.List[:2]...), leaf("c", "b", -3, p.List[2:]...))
	for _, of := range [][]string{{"b", "a"}, {"a", "a"}, {"", ""}, {"z", "a", "k"}} {
		p = inner("x", "b", -3, children(of...)...)
		half := len(of) / 2
		wantSplit(t, p, 2, inner("x", of[half], 2, p.List[:half]...), inner(of[half], "b", -3, p.List[half:]...))
	}
}

// P7.3: entries one behind the other, the right page's end.
func TestMerge(t *testing.T) {
	for _, c := range []struct{ p, q, both api.Page }{
		{leaf("a", "c", 2, refs("a", "b")...), leaf("c", "e", 3, ref("c", 7), ref("d", 8)), leaf("a", "e", 3, ref("a", 1), ref("b", 2), ref("c", 7), ref("d", 8))},
		{leaf("a", "c", 2), leaf("c", "", 0, ref("c", 7)), leaf("a", "", 0, ref("c", 7))},
		{leaf("a", "c", 2, refs("a")...), leaf("c", "d", 9), leaf("a", "d", 9, ref("a", 1))},
		{leaf("a", "c", 2), leaf("c", "", 0), leaf("a", "", 0)},
		{inner("", "c", 2, child("", 4)), inner("c", "x", 5, child("c", 6)), inner("", "x", 5, child("", 4), child("c", 6))},
		// The number in p's Right is not asked; nor is what else may not be.
		{leaf("a", "c", 99, refs("z")...), leaf("c", "b", -1, refs("a")...), leaf("a", "b", -1, ref("z", 1), ref("a", 1))},
		{leaf("c", "c", 1), leaf("c", "c", 1), leaf("c", "c", 1)},
	} {
		got, f := page.Merge(c.p, c.q)
		want(t, "Merge", f, api.OK)
		wantPage(t, "Merge", got, c.both)
	}
}

// P7.3: pages that do not stand side by side.
func TestMergeRefuses(t *testing.T) {
	refusesMerge(t, leaf("a", "c", 2, refs("a")...), inner("c", "", 0, child("c", 1)))
	refusesMerge(t, inner("a", "c", 2, child("a", 1)), leaf("c", "", 0))
	refusesMerge(t, leaf("a", "", 2), leaf("", "b", 0))
	refusesMerge(t, leaf("a", "", 2), leaf("c", "d", 0))
	refusesMerge(t, leaf("", "", 0), leaf("", "", 0))
	refusesMerge(t, api.Page{}, api.Page{})
	refusesMerge(t, leaf("a", "c", 2), leaf("d", "e", 0))
	refusesMerge(t, leaf("a", "c", 2), leaf("b", "e", 0))
	refusesMerge(t, leaf("a", "c", 2), leaf("c\x00", "e", 0))
	refusesMerge(t, leaf("a", "c", 2), leaf("", "e", 0))
	refusesMerge(t, leaf("c", "e", 2), leaf("a", "c", 1))
}

// P7.4: more than eight entries, fewer than two, of each kind of page.
func TestFullAndSmall(t *testing.T) {
	for n := range 40 {
		for _, p := range []api.Page{{Leaf: true}, {}, leaf("b", "a", -1)} {
			for range n {
				p.List = append(p.List, ref("a", 1))
			}
			if page.Full(p) != (n > 8) || page.Small(p) != (n < 2) {
				t.Errorf("with %d entries: Full %v, Small %v", n, page.Full(p), page.Small(p))
			}
		}
	}
}

// P7.4: From begins at the first entry that is not below the key, and goes on to the end.
func TestFrom(t *testing.T) {
	for _, p := range []api.Page{leaf("b", "q", 0, refs("b", "d", "f")...), inner("b", "q", 0, children("b", "d", "f")...)} {
		for key, at := range map[string]int{"": 0, "a": 0, "b": 0, "b\x00": 1, "c": 1, "d": 1, "d\x00": 2, "f": 2, "f\x00": 3, "z": 3} {
			wantFrom(t, p, key, p.List[at:]...)
		}
	}
	wantFrom(t, leaf("", "", 0), "")
	wantFrom(t, leaf("", "", 0, refs("", "a")...), "", ref("", 1), ref("a", 2))
	// Pages that may not be: all behind the first one, whatever their Keys.
	twice := leaf("x", "y", 0, refs("a", "c", "c", "d")...)
	wantFrom(t, twice, "c", twice.List[1:]...)
	wantFrom(t, twice, "b", twice.List[1:]...)
	wantFrom(t, twice, "cc", twice.List[3:]...)
	falls := leaf("", "", 0, refs("d", "b", "x", "a", "c", "y")...)
	for key, at := range map[string]int{"a": 0, "d": 0, "e": 2, "x": 2, "xx": 5, "z": 6} {
		wantFrom(t, falls, key, falls.List[at:]...)
	}
}

// P7.4: each field counts, and each one of an entry.
func TestSame(t *testing.T) {
	base := leaf("a", "c", 2, refs("a", "b")...)
	others := []api.Page{
		inner("a", "c", 2, base.List...),
		leaf("aa", "c", 2, base.List...),
		leaf("a", "cc", 2, base.List...),
		leaf("a", "", 2, base.List...),
		leaf("a", "c", 3, base.List...),
		leaf("a", "c", 2, refs("a")...),
		leaf("a", "c", 2, refs("a", "b", "bb")...),
		leaf("a", "c", 2),
		leaf("a", "c", 2, refs("a", "bb")...),
		leaf("a", "c", 2, ref("a", 1), ref("b", 3)),
		leaf("a", "c", 2, ref("a", 1), api.Entry{Key: "b", Ref: api.Handle{Slot: 2, Gen: 2}}),
		leaf("a", "c", 2, ref("a", 1), api.Entry{Key: "b", Ref: api.Handle{Slot: 2, Gen: 1}, Child: 1}),
		leaf("a", "c", 2, base.List[1], base.List[0]),
		{},
	}
	for i, a := range others {
		if page.Same(a, base) || page.Same(base, a) {
			t.Errorf("%v is the Same as %v", a, base)
		}
		for j, b := range others {
			if page.Same(a, b) != (i == j) {
				t.Errorf("Same(%v, %v) = %v", a, b, i != j)
			}
		}
	}
	if !page.Same(base, leaf("a", "c", 2, refs("a", "b")...)) {
		t.Error("a page is not the Same as one like it")
	}
}

// P7.4: all of it is the same in a clone.
func TestClone(t *testing.T) {
	for _, p := range []api.Page{{}, {Leaf: true}, leaf("a", "c", 2, refs("a", "b")...), inner("a", "", 0, children("a", "b")...), leaf("z", "b", -4, refs("x", "a", "a")...), {List: []api.Entry{}}} {
		wantPage(t, "Clone", page.Clone(p), p)
	}
}
