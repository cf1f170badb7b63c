package page_test

import (
	"iter"
	"math"
	"slices"
	"strings"
	"testing"

	"cresset/api"
	"cresset/page"
)

// The calls that the chapter lists keep their signatures.
var (
	_ func(api.Page) api.Errno                            = page.Check
	_ func(api.Page, string) bool                         = page.Has
	_ func(api.Page, string) (api.Entry, bool)            = page.Find
	_ func(api.Page, api.Entry) (api.Page, api.Errno)     = page.Put
	_ func(api.Page, string) (api.Page, api.Errno)        = page.Remove
	_ func(api.Page, int) (api.Page, api.Page, api.Errno) = page.Split
	_ func(api.Page, api.Page) (api.Page, api.Errno)      = page.Merge
	_ func(api.Page) bool                                 = page.Full
	_ func(api.Page) bool                                 = page.Small
	_ func(api.Page, string) iter.Seq[api.Entry]          = page.From
	_ func(api.Page, api.Page) bool                       = page.Same
	_ func(api.Page) api.Page                             = page.Clone
)

func TestErrorsHaveTheirNumbers(t *testing.T) {
	got := []api.Errno{api.OK, api.ErrArg, api.ErrNone, api.ErrPage, api.ErrSplit, api.ErrMerge, api.ErrOut, api.PageMost, api.PageLeast}
	if wanted := []api.Errno{0, 1, 4, 70, 71, 72, 73, 8, 2}; !slices.Equal(got, wanted) {
		t.Errorf("errors and limits are %v, want %v", got, wanted)
	}
}

// R1: every call ends at pages, keys and numbers of all kinds.
func TestAnyArguments(t *testing.T) {
	long := strings.Repeat("k", 300)
	pages := []api.Page{{}, {Leaf: true}, leaf("b", "a", math.MinInt, refs("", "b", "a", "a")...), inner("\xff", "\x00", math.MaxInt, refs("", "", "")...), leaf(long, long+"x", 1, refs(long, "")...), {List: []api.Entry{{Child: math.MinInt, Ref: api.Handle{Slot: math.MinInt, Gen: math.MinInt64}}}}}
	for _, p := range pages {
		holdWhole(t, p)
		for _, key := range []string{"", "\x00", "a", "é", "\xc3", long, long + "y", "\xff\xff"} {
			holdKey(t, p, api.Entry{Key: key, Child: math.MaxInt, Ref: api.Handle{Slot: -1, Gen: math.MaxInt64}})
		}
		for _, id := range []int{math.MinInt, -1, 0, 1, math.MaxInt} {
			page.Split(p, id)
		}
		for _, q := range pages {
			if page.Same(p, q) != equal(p, q) {
				t.Errorf("Same(%v, %v) = %v", p, q, page.Same(p, q))
			}
			page.Merge(p, q)
		}
	}
}

// roomy is the list with room behind it, in which others' entries stand.
func roomy(list ...api.Entry) (whole, part []api.Entry) {
	whole = append(slices.Clone(list), refs("x", "y", "z", "w", "v", "u", "s", "r", "q", "p")...)
	return whole, whole[:len(list)]
}

// R3: a page that is handed in is left as it is, also behind its list's end.
func TestPagesAreLeft(t *testing.T) {
	whole, part := roomy(refs("b", "d", "f", "h")...)
	before := slices.Clone(whole)
	for _, isLeaf := range []bool{true, false} {
		p := api.Page{Leaf: isLeaf, High: "m", List: part}
		q := api.Page{Leaf: isLeaf, Low: "m", List: part}
		for _, key := range []string{"", "a", "b", "c", "d", "h", "i", "z"} {
			page.Put(p, ref(key, 99))
			page.Remove(p, key)
			page.Find(p, key)
			for e := range page.From(p, key) {
				e.Key = "gone"
			}
		}
		page.Check(p)
		page.Split(p, 3)
		page.Merge(p, q)
		page.Merge(q, p)
		page.Clone(p)
		page.Same(p, q)
		if !slices.Equal(whole, before) {
			t.Fatalf("what was handed in is %v, was %v", whole, before)
		}
	}
}

// R3: what is answered is the caller's own: what he writes to it, or puts behind it, is seen nowhere else.
func TestAnswersAreTheCallers(t *testing.T) {
	whole, part := roomy(refs("b", "d", "f", "h")...)
	before := slices.Clone(whole)
	p := leaf("", "m", 0)
	p.List = part
	empty := leaf("m", "", 0)
	empty.List = whole[:0]
	first := leaf("", "m", 0)
	ends := leaf("m", "", 0)
	first.List, ends.List = whole[:0], part
	one := func(p api.Page, f api.Errno) []api.Page { return []api.Page{p} }
	two := func(p, q api.Page, f api.Errno) []api.Page { return []api.Page{p, q} }
	for at, ask := range []func() []api.Page{
		func() []api.Page { return one(page.Put(p, ref("a", 9))) },
		func() []api.Page { return one(page.Put(p, ref("b", 9))) },
		func() []api.Page { return one(page.Put(p, ref("h", 9))) },
		func() []api.Page { return one(page.Put(p, ref("l", 9))) },
		func() []api.Page { return one(page.Remove(p, "b")) },
		func() []api.Page { return one(page.Remove(p, "h")) },
		func() []api.Page { return two(page.Split(p, 9)) },
		func() []api.Page { return one(page.Merge(p, empty)) },
		func() []api.Page { return one(page.Merge(first, ends)) },
		func() []api.Page { return one(page.Clone(p), 0) },
	} {
		answer := ask()
		var wanted []api.Page
		for _, a := range answer {
			wanted = append(wanted, copied(a))
		}
		for i := range answer {
			// What is put behind one list does not reach into the other one.
			for range 12 {
				answer[i].List = append(answer[i].List, ref("gone", 1))
			}
			for j := range answer {
				if j != i && !slices.Equal(answer[j].List[:len(wanted[j].List)], wanted[j].List) {
					t.Errorf("call %d: page %d is %v, was %v", at, j, answer[j], wanted[j])
				}
			}
		}
		answer = ask()
		for i := range answer {
			for k := range answer[i].List {
				answer[i].List[k] = ref("gone", 1)
			}
			_ = append(answer[i].List, ref("gone", 1), ref("gone", 2))
		}
		for i, a := range ask() {
			wantPage(t, "the answer, asked again,", a, wanted[i])
		}
		if !slices.Equal(whole, before) {
			t.Fatalf("call %d: what was handed in is %v, was %v", at, whole, before)
		}
	}
}

// R3: nor is an answer changed by what the owner of what was handed in does behind the call.
func TestAnswersDoNotHangOnWhatWasHandedIn(t *testing.T) {
	for _, ask := range []func(api.Page) []api.Page{
		func(p api.Page) []api.Page { q, _ := page.Put(p, ref("z", 9)); return []api.Page{q} },
		func(p api.Page) []api.Page { q, _ := page.Put(p, ref("b", 9)); return []api.Page{q} },
		func(p api.Page) []api.Page { q, _ := page.Remove(p, "d"); return []api.Page{q} },
		func(p api.Page) []api.Page { l, r, _ := page.Split(p, 4); return []api.Page{l, r} },
		func(p api.Page) []api.Page {
			p.High = "zz"
			q, _ := page.Merge(p, leaf("zz", "", 0))
			return []api.Page{q}
		},
		func(p api.Page) []api.Page { q, _ := page.Merge(leaf("", "a", 0), p); return []api.Page{q} },
		func(p api.Page) []api.Page { return []api.Page{page.Clone(p)} },
	} {
		p := leaf("a", "", 0, refs("b", "c", "d")...)
		answer := ask(p)
		wanted := ask(leaf("a", "", 0, refs("b", "c", "d")...))
		for i := range p.List {
			p.List[i] = ref("gone", 1)
		}
		for i := range answer {
			wantPage(t, "the answer", answer[i], wanted[i])
		}
	}
}

// R3: From tells what was there when it was asked for, may stop at any point, and be done again.
func TestFromTellsWhatWasThere(t *testing.T) {
	p := leaf("", "", 0, refs("a", "b", "c", "d", "e")...)
	wanted := slices.Clone(p.List[1:])
	seq := page.From(p, "b")
	for i := range p.List {
		p.List[i] = ref("gone", 1)
	}
	for range 2 {
		if got := slices.Collect(seq); !slices.Equal(got, wanted) {
			t.Errorf("From tells %v, want %v", got, wanted)
		}
	}
	for stop := 1; stop <= len(wanted); stop++ {
		n := 0
		for e := range seq {
			if e != wanted[n] {
				t.Fatalf("%v at the place %d", e, n)
			}
			if n++; n == stop {
				break
			}
		}
		if n != stop {
			t.Errorf("%d told, want %d", n, stop)
		}
	}
}

// R4: empty and nil lists are the same.
func TestEmptyAndNilLists(t *testing.T) {
	for _, isLeaf := range []bool{true, false} {
		none, empty := api.Page{Leaf: isLeaf}, api.Page{Leaf: isLeaf, List: []api.Entry{}}
		if !page.Same(none, empty) || !page.Same(empty, none) || page.Check(none) != page.Check(empty) {
			t.Errorf("%v and %v are unlike", none, empty)
		}
		for _, p := range []api.Page{none, empty} {
			holdWhole(t, p)
			holdKey(t, p, ref("a", 1))
			q := p
			p.High, q.Low = "m", "m"
			m, f := page.Merge(p, q)
			if f != api.OK || !page.Same(m, none) {
				t.Errorf("Merge = %v, %d", m, f)
			}
		}
	}
	left, f := page.Remove(leaf("", "", 0, ref("a", 1)), "a")
	if f != api.OK || !page.Same(left, api.Page{Leaf: true}) {
		t.Errorf("the page without its only entry is %v, %d", left, f)
	}
}

// R6: the same calls answer the same.
func TestSameAgain(t *testing.T) {
	p := leaf("", "", 0, refs("d", "a", "d", "b", "c")...)
	q, _ := page.Put(p, ref("d", 9))
	l, r, _ := page.Split(leaf("", "", 0, refs("a", "b", "c")...), 3)
	for range 20 {
		again, _ := page.Put(p, ref("d", 9))
		wantPage(t, "Put", again, q)
		left, right, _ := page.Split(leaf("", "", 0, refs("a", "b", "c")...), 3)
		wantPage(t, "the left page", left, l)
		wantPage(t, "the right page", right, r)
	}
}

// The bound: great pages with long keys, in order and not, would not end in time if each entry were held against each other.
func TestGreatPages(t *testing.T) {
	const many = 100000
	long := strings.Repeat("k", 60)
	p := api.Page{Leaf: true}
	for i := range many {
		p.List = append(p.List, ref(long+string([]byte{byte(i >> 16), byte(i >> 8), byte(i)}), i))
	}
	falls := page.Clone(p)
	slices.Reverse(falls.List)
	want(t, "Check", page.Check(p), api.OK)
	want(t, "Check", page.Check(falls), api.ErrPage)
	for _, q := range []api.Page{p, falls} {
		for _, isLeaf := range []bool{true, false} {
			q.Leaf = isLeaf
			for at := 0; at < many; at += many / 10 {
				key := p.List[at].Key
				e, is := page.Find(q, key)
				if wanted, ok := wordsFind(q, key); e != wanted || is != ok {
					t.Fatalf("Find at %d: %v, %v", at, e, is)
				}
				left, f := page.Remove(q, key)
				if f != api.OK || len(left.List) != many-1 {
					t.Fatalf("Remove at %d: %d", at, f)
				}
				if back, f := page.Put(left, ref(key, at)); f != api.OK || len(back.List) != many {
					t.Fatalf("Put at %d: %d", at, f)
				}
			}
		}
	}
	l, r, f := page.Split(p, 1)
	m, g := page.Merge(l, r)
	if f != api.OK || g != api.OK || !page.Same(m, p) {
		t.Errorf("Split and Merge of a great page: %d, %d", f, g)
	}
}
