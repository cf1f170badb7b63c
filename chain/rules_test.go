package chain_test

import (
	"iter"
	"math"
	"runtime"
	"slices"
	"strconv"
	"testing"

	"cresset/api"
	"cresset/chain"
)

// The calls that the chapter lists keep their signatures.
var (
	_ func(nodes, api.Page) (api.Handle, api.Errno)              = chain.Begin
	_ func(nodes, api.Handle, api.Delta) (api.Handle, api.Errno) = chain.Grow
	_ func(nodes, api.Handle) (api.Page, []api.Delta, api.Errno) = chain.Read
	_ func(nodes, api.Handle) (api.Page, api.Errno)              = chain.Page
	_ func(nodes, api.Handle, string) (api.Spot, api.Errno)      = chain.Look
	_ func(nodes, api.Handle) (int, api.Errno)                   = chain.Long
	_ func(nodes, api.Handle) (api.Handle, api.Errno)            = chain.Pack
	_ func(nodes, api.Handle) iter.Seq2[api.Handle, api.Node]    = chain.Nodes
	_ func(nodes, api.Handle) api.Errno                          = chain.Free
)

func TestNumbers(t *testing.T) {
	errors := []api.Errno{api.OK, api.ErrMade, api.ErrFull, api.ErrStale, api.ErrPage, api.ErrDelta, api.ErrChain}
	if wanted := []api.Errno{0, 2, 5, 7, 70, 90, 110}; !slices.Equal(errors, wanted) {
		t.Errorf("errors are %v, want %v", errors, wanted)
	}
}

// R1: each call ends without a panic at all arguments, of arenas that have any nodes.
func TestAnyArguments(t *testing.T) {
	handles := append([]api.Handle{handle(0, 1), handle(1, 1)}, bad...)
	pages := []api.Page{{}, some, leaf("b", "a", math.MinInt, ref("z", -1), child("a", -1), ref("z", 1)), inner("", "", math.MaxInt)}
	deltas := append([]api.Delta{putC, noA, cutAt, gone(1), merge(some), {Kind: math.MinInt, Right: pages[2]}}, wrong...)
	for _, p := range pages {
		for _, d := range deltas {
			for _, next := range handles {
				a := laid(t, 8, api.Node{Base: true, Page: p, Delta: d, Next: next, Long: math.MaxInt}, api.Node{Page: p, Delta: d, Next: next, Long: math.MaxInt})
				for _, head := range handles {
					chain.Begin(a, p)
					chain.Grow(a, head, d)
					chain.Read(a, head)
					chain.Page(a, head)
					chain.Look(a, head, p.Low)
					chain.Long(a, head)
					chain.Pack(a, head)
					told(a, head, 3)
				}
				for _, head := range handles {
					chain.Free(a, head)
				}
			}
		}
	}
}

// R2, R5: an arena that no call made answers ErrMade ahead of all; nothing is told, and nothing makes it one.
func TestAnArenaThatNoCallMade(t *testing.T) {
	for _, a := range []nodes{nil, {}} {
		for _, head := range append([]api.Handle{handle(0, 1)}, bad...) {
			for _, p := range []api.Page{some, {}, leaf("b", "a", -1)} {
				refusesBegin(t, a, p, api.ErrMade)
			}
			for _, d := range append([]api.Delta{putC}, wrong...) {
				refusesGrow(t, a, head, d, api.ErrMade)
			}
			refusesRead(t, a, head, api.ErrMade)
			refusesLong(t, a, head, api.ErrMade)
			wantTold(t, a, head)
			if a.Slots() != 0 || a.Live() != 0 || a.Stale() != 0 {
				t.Fatalf("Slots %d, Live %d, Stale %d", a.Slots(), a.Live(), a.Stale())
			}
		}
	}
}

// spoil writes to all of a page's list, and behind it.
func spoil(p api.Page) {
	for at := range p.List {
		p.List[at] = ref("spoilt", 99)
	}
	_ = append(p.List, ref("spoilt", 98))
}

// R3: what is handed in is left as it is, and is not kept in a way that its owner could see or change.
func TestWhatIsHandedIn(t *testing.T) {
	mine := func() api.Page { return leaf("", "m", 3, append(make([]api.Entry, 0, 9), ref("a", 1), ref("b", 2))...) }
	more := func() api.Page { return leaf("m", "", 4, append(make([]api.Entry, 0, 9), ref("n", 1), ref("o", 2))...) }
	whole := leaf("", "", 4, ref("a", 1), ref("b", 2), ref("n", 1), ref("o", 2))
	a := newArena(t, 9)
	p, d := mine(), merge(more())
	head := grown(t, a, begun(t, a, p), d)
	wantPage(t, a, head, whole)
	chain.Pack(a, head)
	if !equal(p, mine()) || !equal(d.Right, more()) {
		t.Fatalf("what was handed in is %v and %v now", p, d)
	}
	spoil(p)
	spoil(d.Right)
	wantRead(t, a, head, mine(), merge(more()))
	wantPage(t, a, head, whole)
	wantTold(t, a, head, item{head, api.Node{Delta: merge(more()), Next: handle(0, 1), Long: 1}}, item{handle(0, 1), base(mine())})
}

// R3: what is answered is nobody's else: the arena keeps what it had, and a second answer is another one.
func TestWhatIsAnswered(t *testing.T) {
	first, more := leaf("", "m", 3, ref("a", 1), ref("b", 2)), leaf("m", "", 4, ref("n", 1), ref("o", 2))
	whole := leaf("", "", 4, ref("a", 1), ref("b", 2), ref("n", 1), ref("o", 2))
	a := newArena(t, 9)
	h := begun(t, a, first)
	head := grown(t, a, h, merge(more))
	seq := chain.Nodes(a, head)
	k, _ := chain.Pack(a, head)
	still := func(what string) {
		t.Helper()
		for i, n := range []api.Node{base(first), {Delta: merge(more), Next: h, Long: 1}, base(whole)} {
			if got := all(a)[i].n; !equalNode(got, n) {
				t.Fatalf("%s: the arena has %v, want %v", what, got, n)
			}
		}
		var got []api.Node
		for _, n := range seq {
			got = append(got, n)
		}
		if len(got) != 2 || !equalNode(got[0], api.Node{Delta: merge(more), Next: h, Long: 1}) || !equalNode(got[1], base(first)) {
			t.Fatalf("%s: Nodes tells %v", what, got)
		}
	}
	for range 2 {
		p, l, _ := chain.Read(a, head)
		spoil(p)
		spoil(l[0].Right)
		l[0].Kind = 9
		still("Read")
		for _, h := range []api.Handle{h, head, k} {
			p, _ = chain.Page(a, h)
			spoil(p)
			still("Page")
		}
		for _, n := range seq {
			spoil(n.Page)
			spoil(n.Delta.Right)
		}
		still("Nodes")
	}
}

// R3: no two lists of one answer share anything, even where nodes of the arena do.
func TestListsOfOneAnswer(t *testing.T) {
	shared := leaf("m", "", 0, ref("n", 1), ref("o", 2))
	a := laid(t, 4, base(shared), change(merge(shared), handle(0, 1)), api.Node{Page: shared, Delta: merge(shared), Next: handle(1, 1)})
	p, l, e := chain.Read(a, handle(2, 1))
	want(t, "Read", e, api.OK)
	spoil(l[0].Right)
	if !equal(l[1].Right, shared) || !equal(p, shared) {
		t.Errorf("%v, %v", p, l)
	}
	spoil(p)
	if !equal(l[1].Right, shared) {
		t.Errorf("%v", l)
	}
	for _, n := range chain.Nodes(a, handle(2, 1)) {
		spoil(n.Delta.Right)
		if n.Page.Low == "m" && !equal(n.Page, shared) {
			t.Errorf("%v", n)
		}
		spoil(n.Page)
	}
	if !equal(shared, leaf("m", "", 0, ref("n", 1), ref("o", 2))) {
		t.Errorf("the arena's are %v", shared)
	}
}

// R3: Nodes tells what was there when it was asked for, whatever is done on the way or behind; it may stop, and be done again.
func TestNodesTellsWhatWasThere(t *testing.T) {
	a := newArena(t, 9)
	h := begun(t, a, some)
	one := grown(t, a, h, putC)
	two := grown(t, a, one, noA)
	wanted := told(a, two, -1)
	seq := chain.Nodes(a, two)
	collect := func(do func(h api.Handle)) []item {
		var list []item
		for h, n := range seq {
			list = append(list, item{h, n})
			do(h)
		}
		return list
	}
	nothing := func(api.Handle) {}
	for stop := 1; stop <= 3; stop++ {
		n := 0
		for h := range seq {
			if h != wanted[n].h {
				t.Fatalf("%v told at the place %d", h, n)
			}
			if n++; n == stop {
				break
			}
		}
		if n != stop {
			t.Errorf("%d told, want %d", n, stop)
		}
	}
	for range 2 {
		got := collect(func(at api.Handle) {
			a.Set(h, change(cutAt, two))
			a.Set(one, base(leaf("x", "", 0)))
			chain.Grow(a, two, cutAt)
		})
		if !slices.EqualFunc(got, wanted, equalItem) {
			t.Errorf("changed on the way: %v", got)
		}
	}
	a.Free(one)
	a.Free(h)
	begun(t, a, leaf("y", "", 0))
	a.Free(two)
	for range 2 {
		if got := collect(nothing); !slices.EqualFunc(got, wanted, equalItem) {
			t.Errorf("behind all: %v", got)
		}
	}
	none := chain.Nodes(a, two)
	begun(t, a, some)
	for h := range none {
		t.Errorf("%v told of what was stale", h)
	}
}

// R3: what a node's list had when Nodes was asked is told, though the list is written to by who has put it there.
func TestNodesKeepsNoList(t *testing.T) {
	p, d := leaf("", "m", 0, ref("a", 1)), merge(leaf("m", "", 0, ref("n", 1)))
	a := laid(t, 2, base(p), change(d, handle(0, 1)))
	seq := chain.Nodes(a, handle(1, 1))
	spoil(p)
	spoil(d.Right)
	for _, n := range seq {
		if n.Base && n.Page.List[0] != ref("a", 1) || !n.Base && n.Delta.Right.List[0] != ref("n", 1) {
			t.Errorf("%v told", n)
		}
	}
}

// R4: empty and nil lists are the same.
func TestEmptyLists(t *testing.T) {
	a := newArena(t, 4)
	for _, list := range [][]api.Entry{nil, {}} {
		p := leaf("", "m", 0)
		p.List = list
		q := leaf("m", "", 0)
		q.List = list
		h := grown(t, a, begun(t, a, p), merge(q))
		wantPage(t, a, h, leaf("", "", 0))
		wantRead(t, a, h, leaf("", "m", 0), merge(leaf("m", "", 0)))
	}
}

// R6: the same calls answer the same.
func TestSameAgain(t *testing.T) {
	run := func() []item {
		a := newArena(t, 100)
		heads := []api.Handle{begun(t, a, some)}
		for i := range 2000 {
			h := heads[i*i%len(heads)]
			if g, e := chain.Grow(a, h, put(ref(strconv.Itoa(i%50), i))); e == api.OK {
				heads = append(heads, g)
			}
			if k, e := chain.Pack(a, h); e == api.OK && i%3 == 0 {
				heads = append(heads, k)
			}
			if i%7 == 0 {
				chain.Free(a, heads[i*3%len(heads)])
			}
		}
		return append(all(a), item{n: api.Node{Long: int(a.Stale())}})
	}
	first := run()
	for range 5 {
		if again := run(); !slices.EqualFunc(first, again, equalItem) {
			t.Fatal("another answer the second time")
		}
	}
}

// The bound: a chain of many deltas that all say something is read and folded once.
func TestALongChain(t *testing.T) {
	a := newArena(t, api.MaxSlots)
	head := begun(t, a, leaf("", "", 0))
	for i := range api.MaxSlots - 2 {
		head = grown(t, a, head, put(ref(strconv.Itoa(i*40503%api.MaxSlots), i)))
	}
	wantLong(t, a, head, api.MaxSlots-2)
	k, e := chain.Pack(a, head)
	want(t, "Pack", e, api.OK)
	p, e := chain.Page(a, k)
	if e != api.OK || len(p.List) != api.MaxSlots-2 {
		t.Errorf("Page has %d, %d", len(p.List), e)
	}
	wantLook(t, a, head, "40503", api.Spot{Entry: ref("40503", 1), Found: true})
	want(t, "Free", chain.Free(a, head), api.OK)
	if a.Live() != 1 {
		t.Errorf("Live is %d", a.Live())
	}
}

// The bound: a short chain takes no longer in a great arena, nor does Grow of a long one.
func TestAShortChainInAGreatArena(t *testing.T) {
	a := great(t, api.MaxSlots-10, base(some))
	long := handle(api.MaxSlots-11, 1)
	short := grown(t, a, begun(t, a, some), putC, noA)
	wanted := leaf("", "", 0, ref("b", 2), ref("c", 3))
	for range 50000 {
		h := grown(t, a, long, putC)
		want(t, "Free", a.Free(h), api.OK)
		wantPage(t, a, short, wanted)
		wantLook(t, a, short, "a", api.Spot{})
		if got := told(a, short, -1); len(got) != 3 {
			t.Fatalf("%d told", len(got))
		}
		k, _ := chain.Pack(a, short)
		want(t, "Free", chain.Free(a, k), api.OK)
	}
}

// The bound: a ring of great nodes is known without a copy of each for each time that it comes round.
func TestARingOfGreatNodes(t *testing.T) {
	right := leaf("m", "", 0)
	for i := range 20000 {
		right.List = append(right.List, ref("n"+strconv.Itoa(100000+i), i))
	}
	a := laid(t, 2000, change(merge(right), handle(1, 1)), change(merge(right), handle(0, 1)))
	for a.Live() < a.Slots() {
		a.Put(api.Node{}) // so that the ring comes round often ahead of where it is known
	}
	var before, after runtime.MemStats
	runtime.ReadMemStats(&before)
	for range 10 {
		wantErrors(t, a, handle(0, 1), api.ErrChain)
		if got := told(a, handle(0, 1), 4); len(got) != 4 || len(got[3].n.Delta.Right.List) != 20000 {
			t.Fatalf("%d told", len(got))
		}
	}
	runtime.ReadMemStats(&after)
	if got := after.TotalAlloc - before.TotalAlloc; got > 1<<28 {
		t.Errorf("ten rounds have taken %d bytes", got)
	}
}
