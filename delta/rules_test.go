package delta_test

import (
	"math"
	"slices"
	"strings"
	"testing"

	"cresset/api"
	"cresset/delta"
	"cresset/page"
)

// The calls that the chapter lists keep their signatures.
var (
	_ func(api.Delta) api.Errno                                  = delta.Check
	_ func(api.Page, api.Delta) (api.Page, api.Errno)            = delta.Apply
	_ func(api.Page, ...api.Delta) (api.Page, api.Errno)         = delta.Fold
	_ func(api.Page, string, ...api.Delta) (api.Spot, api.Errno) = delta.Look
	_ func([]api.Delta) bool                                     = delta.Long
	_ func(api.Page, api.Delta) (api.Delta, bool)                = delta.Undo
	_ func(api.Delta, api.Delta) bool                            = delta.Same
	_ func(api.Delta) api.Delta                                  = delta.Clone
)

func TestErrorsHaveTheirNumbers(t *testing.T) {
	got := []api.Errno{api.OK, api.ErrMerge, api.ErrOut, api.ErrDelta, api.ErrGone, api.DeltaPut, api.DeltaRemove, api.DeltaSplit, api.DeltaMerge, api.DeltaGone, api.DeltaMost}
	if wanted := []api.Errno{0, 72, 73, 90, 91, 1, 2, 3, 4, 5, 6}; !slices.Equal(got, wanted) {
		t.Errorf("errors, kinds and the bound are %v, want %v", got, wanted)
	}
}

// R1: every call ends at pages, keys and deltas of all kinds.
func TestAnyArguments(t *testing.T) {
	long := strings.Repeat("k", 300)
	pages := []api.Page{{}, {Leaf: true}, leaf("b", "a", math.MinInt, refs("", "b", "a", "a")...), inner("\xff", "\x00", math.MaxInt, refs("", "", "")...), leaf(long, long+"x", 1, refs(long, "")...), {List: []api.Entry{{Child: math.MinInt, Ref: api.Handle{Slot: math.MinInt, Gen: math.MinInt64}}}}}
	few := []string{"", "\x00", "a", "é", "\xc3", long, long + "y", "\xff\xff"}
	var deltas []api.Delta
	for _, kind := range []int{math.MinInt, -1, 0, 1, 2, 3, 4, 5, 6, math.MaxInt} {
		for at, key := range few {
			deltas = append(deltas, api.Delta{Kind: kind, Key: key}, api.Delta{Kind: kind, Key: key, Page: math.MaxInt}, api.Delta{Kind: kind, Entry: api.Entry{Key: key, Child: math.MinInt}}, api.Delta{Kind: kind, Page: at - 1}, api.Delta{Kind: kind, Right: pages[at%len(pages)]})
		}
	}
	for _, p := range pages {
		for at, d := range deltas {
			holdOne(t, p, d)
			holdFold(t, p, []api.Delta{d}, few...)
			holdFold(t, p, []api.Delta{deltas[len(deltas)-1-at], d, deltas[at/2]}, few...)
			if !delta.Same(d, delta.Clone(d)) || delta.Same(d, deltas[(at+7)%len(deltas)]) != equalDelta(d, deltas[(at+7)%len(deltas)]) {
				t.Errorf("Same of %v", d)
			}
		}
	}
}

// roomy is the list with room behind it, in which others' entries stand.
func roomy(list ...api.Entry) (whole, part []api.Entry) {
	whole = append(slices.Clone(list), refs("x", "y", "z", "w", "v", "u", "s", "r", "q", "p")...)
	return whole, whole[:len(list)]
}

// asked is all that is answered of a page and a list of deltas whose pages and entries have lists of their own.
func asked(base api.Page, l []api.Delta) []api.Page {
	var out []api.Page
	for at, d := range l {
		p, _ := delta.Apply(base, d)
		q, _ := delta.Fold(base, d)
		r, _ := delta.Fold(base, l[at:]...)
		out = append(out, p, q, r, delta.Clone(d).Right)
		delta.Undo(base, d)
		delta.Check(d)
		delta.Look(base, "d", l[at:]...)
	}
	p, _ := delta.Fold(base)
	return append(out, p)
}

// R3: what is handed in is left as it is, also behind its lists' ends; what is answered is the caller's own.
func TestAnswersAreTheCallers(t *testing.T) {
	whole, part := roomy(refs("b", "d", "f", "h")...)
	other, right := roomy(refs("m", "o")...)
	before, otherBefore := slices.Clone(whole), slices.Clone(other)
	base := leaf("", "m", 3, part...) // with that very list, not a copy of it
	empty, first := leaf("m", "", 0), leaf("", "m", 0)
	empty.List, first.List = other[:0], whole[:0]
	end := leaf("m", "z", 4, right...)
	l := []api.Delta{merge(end), split("m", 9), merge(empty), put(ref("a", 9)), put(ref("b", 9)), put(ref("l", 9)), remove("b"), remove("h"), remove("c"), split("l", 4)}
	deltas := slices.Clone(l)
	list := append(make([]api.Delta, 0, len(l)+5), l...)
	for _, p := range []api.Page{base, first} {
		wanted := asked(p, list)
		for i := range wanted {
			wanted[i] = copied(wanted[i])
		}
		answer := asked(p, list)
		for i := range answer {
			for k := range answer[i].List {
				answer[i].List[k] = ref("gone", 1)
			}
			_ = append(answer[i].List, ref("gone", 1), ref("gone", 2))
		}
		for i, a := range asked(p, list) {
			if !equal(a, wanted[i]) {
				t.Errorf("answer %d, asked again, is %v, was %v", i, a, wanted[i])
			}
		}
		if !slices.Equal(whole, before) || !slices.Equal(other, otherBefore) || !slices.EqualFunc(list, deltas, equalDelta) {
			t.Fatalf("what was handed in is %v, %v, %v", whole, other, list)
		}
	}
}

// R3: nor is an answer changed by what the owner of what was handed in does behind the call.
func TestAnswersDoNotHangOnWhatWasHandedIn(t *testing.T) {
	given := func() (api.Page, []api.Delta) {
		return leaf("", "m", 3, refs("b", "d")...), []api.Delta{merge(leaf("m", "z", 4, refs("m", "o")...)), put(ref("c", 5)), remove("")}
	}
	base, l := given()
	answer := asked(base, l)
	wanted := asked(given())
	for i := range base.List {
		base.List[i] = ref("gone", 1)
	}
	for i := range l {
		for k := range l[i].Right.List {
			l[i].Right.List[k] = ref("gone", 1)
		}
		l[i] = gone(1)
	}
	for i := range answer {
		if !equal(answer[i], wanted[i]) {
			t.Errorf("answer %d is %v, want %v", i, answer[i], wanted[i])
		}
	}
}

// R4: empty and nil lists are the same.
func TestEmptyAndNilLists(t *testing.T) {
	d := remove("a")
	d.Right.List = []api.Entry{}
	want(t, "Check", delta.Check(d), api.OK)
	if !delta.Same(d, remove("a")) || !delta.Same(remove("a"), d) || !delta.Same(delta.Clone(d), remove("a")) {
		t.Error("an empty list and none are unlike")
	}
	p := leaf("", "", 0, ref("a", 1))
	wantApply(t, p, d, leaf("", "", 0))
	wantUndo(t, p, d, put(ref("a", 1)))
	empty := api.Page{Leaf: true, List: []api.Entry{}}
	for _, q := range []api.Page{{Leaf: true}, empty} {
		for _, l := range [][]api.Delta{nil, {}} {
			wantFold(t, q, l, leaf("", "", 0))
			wantLook(t, q, "a", l, api.Spot{})
		}
	}
	away := gone(2)
	away.Right.List = []api.Entry{}
	wantLook(t, p, "a", []api.Delta{away}, api.Spot{Go: 2})
	if delta.Long([]api.Delta{}) {
		t.Error("no deltas are long")
	}
}

// R6: the same calls answer the same.
func TestSameAgain(t *testing.T) {
	base := leaf("", "m", 0, refs("d", "a", "d", "b", "z")...)
	l := []api.Delta{remove("d"), put(ref("n", 9)), merge(leaf("m", "", 0, ref("z", 7))), put(ref("c", 8)), remove("a")}
	p, e := delta.Fold(base, l...)
	want(t, "Fold", e, api.OK)
	for range 20 {
		wantFold(t, base, l, p)
	}
}

// name is a key of its own for each number, in their order.
func name(i int) string {
	return strings.Repeat("k", 20) + string([]byte{byte(i >> 16), byte(i >> 8), byte(i)})
}

// The bound: so many deltas ahead of so many entries would not end in time, if each were held against each entry.
func TestManyDeltas(t *testing.T) {
	const many = 60000
	rises, falls := leaf("", "", 0), leaf("", "", 0)
	for i := range many {
		rises.List = append(rises.List, ref(name(2*i), i))
	}
	falls.List = slices.Clone(rises.List)
	slices.Reverse(falls.List)
	var puts, removes, cuts, both []api.Delta
	for i := range many {
		at := i * 7919 % many
		puts = append(puts, put(ref(name(2*at+1), at)))
		removes = append(removes, remove(name(2*at)))
		cuts = append(cuts, split(name(2*i+1), 5))
		both = append(both, remove(name(2*at+1)), put(ref(name(2*at+1), at)))
	}
	p, e := delta.Fold(rises, puts...)
	if want(t, "Fold", e, api.OK); len(p.List) != 2*many || page.Check(p) != api.OK {
		t.Fatalf("%d entries, want %d that rise", len(p.List), 2*many)
	}
	for _, q := range []api.Page{rises, falls} {
		for _, c := range []struct {
			l    []api.Delta
			left int
		}{{puts, 2 * many}, {removes, 0}, {cuts, 1}, {both, many}, {slices.Concat(removes, puts), many}, {slices.Concat(puts, removes), many}, {slices.Concat(cuts, puts), 1}} {
			p, e := delta.Fold(q, c.l...)
			if e != api.OK || len(p.List) != c.left {
				t.Fatalf("%d deltas: %d entries, %d, want %d", len(c.l), len(p.List), e, c.left)
			}
			if _, e := delta.Look(q, name(0), c.l...); e != api.OK {
				t.Fatalf("Look answered %d", e)
			}
		}
	}
}

// The bound: pages split and merged again and again, the first ones with many entries that stay.
func TestManySplitsAndMerges(t *testing.T) {
	const many = 100000
	for _, isLeaf := range []bool{true, false} {
		base := api.Page{Leaf: isLeaf}
		right := api.Page{Leaf: isLeaf, Low: "m", List: []api.Entry{{Key: "m"}, {Key: "n"}}}
		for i := range many {
			base.List = append(base.List, api.Entry{Key: name(i)})
		}
		for i := range right.List {
			right.List[i].Child = 7
			if isLeaf {
				right.List[i] = ref(right.List[i].Key, 7)
			}
		}
		var l []api.Delta
		for range many {
			l = append(l, merge(right), split("m", 3))
		}
		p, e := delta.Fold(base, l...)
		if e != api.OK || len(p.List) != many+2 || !slices.Equal(p.List[many:], right.List) {
			t.Fatalf("%d entries, %d, want %d", len(p.List), e, many+2)
		}
		if x, e := delta.Look(base, "n", l...); e != api.OK || x.Entry != right.List[1] {
			t.Fatalf("Look = %v, %d", x, e)
		}
	}
}

// The bound: long keys beside many short ones are not gone through again and again.
func TestLongKeysBesideMany(t *testing.T) {
	const many = 100000
	long := strings.Repeat("z", 1<<20)
	base := leaf("", "", 0, refs(long+"a", long+"b", long+"c")...)
	var l []api.Delta
	for i := range many {
		l = append(l, put(ref(name(i), i)), remove(name(i*31%many)))
	}
	p, e := delta.Fold(base, l...)
	if e != api.OK || !slices.Equal(p.List[len(p.List)-3:], base.List) {
		t.Fatalf("%d entries, %d", len(p.List), e)
	}
}
