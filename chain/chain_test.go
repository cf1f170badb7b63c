package chain_test

import (
	"math"
	"slices"
	"testing"

	"cresset/api"
	"cresset/arena"
	"cresset/chain"
)

type nodes = *arena.Arena[api.Node]

// ref is an entry of a leaf.
func ref(key string, slot int) api.Entry {
	return api.Entry{Key: key, Ref: api.Handle{Slot: slot, Gen: 1}}
}

// child is an entry of an inner page.
func child(key string, id int) api.Entry { return api.Entry{Key: key, Child: id} }

func leaf(low, high string, right int, list ...api.Entry) api.Page {
	return api.Page{Leaf: true, Low: low, High: high, Right: right, List: list}
}

func inner(low, high string, right int, list ...api.Entry) api.Page {
	return api.Page{Low: low, High: high, Right: right, List: list}
}

func put(e api.Entry) api.Delta          { return api.Delta{Kind: 1, Entry: e} }
func remove(key string) api.Delta        { return api.Delta{Kind: 2, Key: key} }
func split(key string, to int) api.Delta { return api.Delta{Kind: 3, Key: key, Page: to} }
func merge(right api.Page) api.Delta     { return api.Delta{Kind: 4, Right: right} }
func gone(to int) api.Delta              { return api.Delta{Kind: 5, Page: to} }

func handle(slot int, gen int64) api.Handle { return api.Handle{Slot: slot, Gen: gen} }

// equal holds pages against each other by the test's own eyes.
func equal(a, b api.Page) bool {
	return a.Leaf == b.Leaf && a.Low == b.Low && a.High == b.High && a.Right == b.Right && slices.Equal(a.List, b.List)
}

func equalDelta(a, b api.Delta) bool {
	return a.Kind == b.Kind && a.Entry == b.Entry && a.Key == b.Key && a.Page == b.Page && equal(a.Right, b.Right)
}

func equalNode(a, b api.Node) bool {
	return a.Base == b.Base && equal(a.Page, b.Page) && equalDelta(a.Delta, b.Delta) && a.Next == b.Next && a.Long == b.Long
}

// item is a node, and its handle.
type item struct {
	h api.Handle
	n api.Node
}

func equalItem(a, b item) bool { return a.h == b.h && equalNode(a.n, b.n) }

// all is what an arena has.
func all(a nodes) []item {
	var list []item
	for h, n := range a.All() {
		list = append(list, item{h, n})
	}
	return list
}

// told is what Nodes tells, or the first ones of it.
func told(a nodes, head api.Handle, most int) []item {
	var list []item
	for h, n := range chain.Nodes(a, head) {
		if list = append(list, item{h, n}); len(list) == most {
			break
		}
	}
	return list
}

func newArena(t *testing.T, slots int) nodes {
	t.Helper()
	a, e := arena.New[api.Node](slots)
	if e != api.OK {
		t.Fatalf("New(%d) answered %d", slots, e)
	}
	return a
}

// begun is the head of a new chain, and grown the one of a chain with deltas ahead, the last one of them being the newest.
func begun(t *testing.T, a nodes, p api.Page) api.Handle {
	t.Helper()
	h, e := chain.Begin(a, p)
	if e != api.OK {
		t.Fatalf("Begin(%v) = %v, %d", p, h, e)
	}
	return h
}

func grown(t *testing.T, a nodes, head api.Handle, l ...api.Delta) api.Handle {
	t.Helper()
	for _, d := range l {
		h, e := chain.Grow(a, head, d)
		if e != api.OK {
			t.Fatalf("Grow(%v, %v) = %v, %d", head, d, h, e)
		}
		head = h
	}
	return head
}

// laid is an arena with these nodes, their handles being those of the slots 0, 1 and so on with Gen 1.
func laid(t *testing.T, slots int, list ...api.Node) nodes {
	t.Helper()
	a := newArena(t, slots)
	for at, n := range list {
		if h, e := a.Put(n); h != handle(at, 1) || e != api.OK {
			t.Fatalf("Put = %v, %d", h, e)
		}
	}
	return a
}

func base(p api.Page) api.Node                     { return api.Node{Base: true, Page: p} }
func change(d api.Delta, next api.Handle) api.Node { return api.Node{Delta: d, Next: next} }

func want(t *testing.T, what string, got, wanted api.Errno) {
	t.Helper()
	if got != wanted {
		t.Fatalf("%s answered %d, want %d", what, got, wanted)
	}
}

func wantNode(t *testing.T, a nodes, h api.Handle, wanted api.Node) {
	t.Helper()
	if n, e := a.Get(h); e != api.OK || !equalNode(n, wanted) {
		t.Fatalf("the node of %v is %v (%d), want %v", h, n, e, wanted)
	}
}

func wantRead(t *testing.T, a nodes, head api.Handle, p api.Page, l ...api.Delta) {
	t.Helper()
	got, deltas, e := chain.Read(a, head)
	if e != api.OK || !equal(got, p) || !slices.EqualFunc(deltas, l, equalDelta) {
		t.Fatalf("Read(%v) = %v, %v, %d, want %v, %v", head, got, deltas, e, p, l)
	}
}

func wantPage(t *testing.T, a nodes, head api.Handle, wanted api.Page) {
	t.Helper()
	if got, e := chain.Page(a, head); e != api.OK || !equal(got, wanted) {
		t.Fatalf("Page(%v) = %v, %d, want %v", head, got, e, wanted)
	}
}

func wantLook(t *testing.T, a nodes, head api.Handle, key string, wanted api.Spot) {
	t.Helper()
	if got, e := chain.Look(a, head, key); e != api.OK || got != wanted {
		t.Fatalf("Look(%v, %q) = %v, %d, want %v", head, key, got, e, wanted)
	}
}

func wantLong(t *testing.T, a nodes, head api.Handle, wanted int) {
	t.Helper()
	if got, e := chain.Long(a, head); e != api.OK || got != wanted {
		t.Fatalf("Long(%v) = %d, %d, want %d", head, got, e, wanted)
	}
}

func wantTold(t *testing.T, a nodes, head api.Handle, wanted ...item) {
	t.Helper()
	if got := told(a, head, -1); !slices.EqualFunc(got, wanted, equalItem) {
		t.Fatalf("Nodes(%v) tells %v, want %v", head, got, wanted)
	}
}

// The calls that answer an error answer nothing beside it, and leave the nodes as they are.

func refusesBegin(t *testing.T, a nodes, p api.Page, wanted api.Errno) {
	t.Helper()
	before, stale := all(a), a.Stale()
	if h, e := chain.Begin(a, p); h != (api.Handle{}) || e != wanted {
		t.Fatalf("Begin(%v) = %v, %d, want %d alone", p, h, e, wanted)
	}
	wantLeft(t, a, before, stale)
}

func refusesGrow(t *testing.T, a nodes, head api.Handle, d api.Delta, wanted api.Errno) {
	t.Helper()
	before, stale := all(a), a.Stale()
	if h, e := chain.Grow(a, head, d); h != (api.Handle{}) || e != wanted {
		t.Fatalf("Grow(%v, %v) = %v, %d, want %d alone", head, d, h, e, wanted)
	}
	wantLeft(t, a, before, stale+counts(wanted))
}

func refusesLong(t *testing.T, a nodes, head api.Handle, wanted api.Errno) {
	t.Helper()
	before, stale := all(a), a.Stale()
	if n, e := chain.Long(a, head); n != 0 || e != wanted {
		t.Fatalf("Long(%v) = %d, %d, want %d alone", head, n, e, wanted)
	}
	wantLeft(t, a, before, stale+counts(wanted))
}

func refusesPage(t *testing.T, a nodes, head api.Handle, wanted api.Errno) {
	t.Helper()
	before, stale := all(a), a.Stale()
	if p, e := chain.Page(a, head); !equal(p, api.Page{}) || p.List != nil || e != wanted {
		t.Fatalf("Page(%v) = %v, %d, want %d alone", head, p, e, wanted)
	}
	wantLeft(t, a, before, stale+counts(wanted))
}

func refusesLook(t *testing.T, a nodes, head api.Handle, key string, wanted api.Errno) {
	t.Helper()
	before, stale := all(a), a.Stale()
	if s, e := chain.Look(a, head, key); s != (api.Spot{}) || e != wanted {
		t.Fatalf("Look(%v, %q) = %v, %d, want %d alone", head, key, s, e, wanted)
	}
	wantLeft(t, a, before, stale+counts(wanted))
}

func refusesPack(t *testing.T, a nodes, head api.Handle, wanted api.Errno) {
	t.Helper()
	before, stale := all(a), a.Stale()
	if h, e := chain.Pack(a, head); h != (api.Handle{}) || e != wanted {
		t.Fatalf("Pack(%v) = %v, %d, want %d alone", head, h, e, wanted)
	}
	wantLeft(t, a, before, stale+counts(wanted))
}

// refusesRead asks all calls that read a chain.
func refusesRead(t *testing.T, a nodes, head api.Handle, wanted api.Errno) {
	t.Helper()
	before, stale := all(a), a.Stale()
	if p, l, e := chain.Read(a, head); !equal(p, api.Page{}) || p.List != nil || l != nil || e != wanted {
		t.Fatalf("Read(%v) = %v, %v, %d, want %d alone", head, p, l, e, wanted)
	}
	wantLeft(t, a, before, stale+counts(wanted))
	want(t, "Free", chain.Free(a, head), wanted)
	wantLeft(t, a, before, stale+2*counts(wanted))
	refusesPage(t, a, head, wanted)
	refusesLook(t, a, head, "a", wanted)
	refusesPack(t, a, head, wanted)
}

// counts is how much more Stale is behind a call that answers e.
func counts(e api.Errno) int64 {
	if e == api.ErrStale {
		return 1
	}
	return 0
}

func wantLeft(t *testing.T, a nodes, before []item, stale int64) {
	t.Helper()
	if got := all(a); !slices.EqualFunc(got, before, equalItem) {
		t.Fatalf("the arena has %v, want %v", got, before)
	}
	if a.Stale() != stale {
		t.Fatalf("Stale is %d, want %d", a.Stale(), stale)
	}
}

// some is a leaf, and three deltas of it.
var (
	some  = leaf("", "", 0, ref("a", 1), ref("b", 2))
	putC  = put(ref("c", 3))
	noA   = remove("a")
	cutAt = split("bb", 7)
)

// The chapter's example.
func TestExample(t *testing.T) {
	a := newArena(t, 3)
	h := begun(t, a, leaf("", "", 0))
	g := grown(t, a, h, put(api.Entry{Key: "a"}))
	wantPage(t, a, g, leaf("", "", 0, api.Entry{Key: "a"}))
	wantLong(t, a, g, 1)
	k, e := chain.Pack(a, g)
	want(t, "Pack", e, api.OK)
	wantLong(t, a, k, 0)
}

// P11.1: Begin puts a node that is a base, with the page, and zero otherwise, into the lowest free slot.
func TestBegin(t *testing.T) {
	a := newArena(t, 4)
	pages := []api.Page{leaf("", "", 0), some, leaf("b", "d", 9, ref("b", 1)), inner("", "k", 3, child("", 1), child("c", 2))}
	for at, p := range pages {
		h := begun(t, a, p)
		if h != handle(at, 1) {
			t.Errorf("the handle of page %d is %v", at, h)
		}
		wantNode(t, a, h, api.Node{Base: true, Page: p})
		wantRead(t, a, h, p)
		wantPage(t, a, h, p)
		wantLong(t, a, h, 0)
		wantTold(t, a, h, item{h, api.Node{Base: true, Page: p}})
	}
	refusesBegin(t, a, some, api.ErrFull)
	want(t, "Free", chain.Free(a, handle(1, 1)), api.OK)
	if h := begun(t, a, some); h != handle(1, 2) {
		t.Errorf("the handle is %v", h)
	}
}

// P11.1: page.Check's error, ahead of ErrFull.
func TestBeginRefuses(t *testing.T) {
	a := newArena(t, 1)
	for range 2 {
		refusesBegin(t, a, leaf("b", "b", 0), api.ErrPage)
		refusesBegin(t, a, leaf("c", "b", 0), api.ErrPage)
		refusesBegin(t, a, leaf("", "", -1), api.ErrPage)
		refusesBegin(t, a, leaf("", "", 0, ref("b", 1), ref("a", 2)), api.ErrPage)
		refusesBegin(t, a, leaf("", "b", 0, ref("b", 1)), api.ErrPage)
		refusesBegin(t, a, leaf("", "", 0, child("a", 1)), api.ErrPage)
		refusesBegin(t, a, api.Page{}, api.ErrPage)
		refusesBegin(t, a, inner("", "", 0, child("a", 1)), api.ErrPage)
		a.Put(api.Node{})
	}
	refusesBegin(t, a, some, api.ErrFull)
}

// P11.1: Grow puts a node with the delta, the head behind it, and a Long that is one more.
func TestGrow(t *testing.T) {
	a := newArena(t, 6)
	list := []api.Delta{putC, noA, cutAt, merge(leaf("bb", "", 4, ref("d", 4))), gone(3)}
	head := begun(t, a, some)
	for at, d := range list {
		h := grown(t, a, head, d)
		if h != handle(at+1, 1) {
			t.Errorf("the handle of delta %d is %v", at, h)
		}
		wantNode(t, a, h, api.Node{Delta: d, Next: head, Long: at + 1})
		wantLong(t, a, h, at+1)
		wantLong(t, a, head, at)
		head = h
	}
	wantNode(t, a, handle(0, 1), base(some))
	refusesGrow(t, a, head, putC, api.ErrFull)
	if a.Live() != 6 || a.Stale() != 0 {
		t.Errorf("Live %d, Stale %d", a.Live(), a.Stale())
	}
}

// P11.1: each node may be grown, more than once; what was behind it is behind both.
func TestGrowTwice(t *testing.T) {
	a := newArena(t, 8)
	h := begun(t, a, some)
	one := grown(t, a, h, putC)
	left, right := grown(t, a, one, noA), grown(t, a, one, cutAt)
	other := grown(t, a, h, remove("b"))
	wantRead(t, a, left, some, noA, putC)
	wantRead(t, a, right, some, cutAt, putC)
	wantRead(t, a, one, some, putC)
	wantRead(t, a, other, some, remove("b"))
	for h, n := range map[api.Handle]int{h: 0, one: 1, left: 2, right: 2, other: 1} {
		wantLong(t, a, h, n)
	}
}

// P11.1: Grow asks whether the delta may be, not whether it fits what stands behind it.
func TestGrowAsksTheDeltaAlone(t *testing.T) {
	a := newArena(t, 4)
	h := begun(t, a, leaf("b", "d", 0))
	grown(t, a, h, put(ref("z", 1)), put(ref("c", 1)), merge(some))
	a = newArena(t, 4)
	head := grown(t, a, begun(t, a, some), gone(1), gone(2))
	wantNode(t, a, grown(t, a, head, noA), api.Node{Delta: noA, Next: head, Long: 3})
}

// P11.1: the Long is one more than the head's, whatever that is; nothing behind the head is asked.
func TestGrowAsksTheHeadAlone(t *testing.T) {
	for _, long := range []int{-7, -1, 0, 1, 5, 65536, math.MaxInt - 1} {
		for _, n := range []api.Node{{Long: long}, {Long: long, Base: true}, {Long: long, Next: handle(0, 1)}, {Long: long, Next: handle(3, 9)}} {
			a := laid(t, 2, n)
			h := grown(t, a, handle(0, 1), putC)
			wantNode(t, a, h, api.Node{Delta: putC, Next: handle(0, 1), Long: long + 1})
			if a.Stale() != 0 {
				t.Errorf("Stale is %d", a.Stale())
			}
		}
	}
}

// wrong is deltas that may not be.
var wrong = []api.Delta{{}, {Kind: -1}, {Kind: 6}, {Kind: 1, Key: "a"}, {Kind: 2, Page: 1}, {Kind: 3, Page: 1}, {Kind: 3, Key: "a"},
	{Kind: 4}, {Kind: 4, Right: leaf("b", "a", 0)}, {Kind: 5}, {Kind: 5, Page: -1}, {Kind: 5, Page: 1, Key: "a"}}

// bad is handles that are not good, of an arena in which slots 0 and 1 were given once.
var bad = []api.Handle{{}, {Gen: 2}, {Slot: 1}, {Slot: 1, Gen: 2}, {Slot: 2, Gen: 1}, {Slot: -1, Gen: 1}, {Gen: -1},
	{Slot: api.MaxSlots, Gen: 1}, {Slot: math.MaxInt, Gen: math.MaxInt64}, {Slot: math.MinInt, Gen: math.MinInt64}}

// P11.1, R2: delta.Check's error, then ErrStale, then ErrFull.
func TestGrowRefuses(t *testing.T) {
	a := newArena(t, 2)
	h := begun(t, a, some)
	for range 2 {
		for _, d := range wrong {
			refusesGrow(t, a, h, d, api.ErrDelta)
			refusesGrow(t, a, api.Handle{}, d, api.ErrDelta)
		}
		a.Put(base(some))
		for _, head := range bad {
			refusesGrow(t, a, head, putC, api.ErrStale)
			refusesGrow(t, a, head, wrong[0], api.ErrDelta)
		}
	}
	refusesGrow(t, a, h, putC, api.ErrFull)
	if got := a.Stale(); got != int64(2*len(bad)) {
		t.Errorf("Stale is %d", got)
	}
}

// P11.2: the base, and the deltas with the newest one first.
func TestRead(t *testing.T) {
	a := newArena(t, 5)
	h := begun(t, a, some)
	begun(t, a, leaf("x", "", 0))
	wantRead(t, a, h, some)
	h = grown(t, a, h, putC)
	wantRead(t, a, h, some, putC)
	h = grown(t, a, h, noA)
	wantRead(t, a, h, some, noA, putC)
	h = grown(t, a, h, cutAt)
	wantRead(t, a, h, some, cutAt, noA, putC)
	wantLong(t, a, h, 3)
	wantPage(t, a, h, leaf("", "bb", 7, ref("b", 2)))
	if a.Stale() != 0 {
		t.Errorf("Stale is %d", a.Stale())
	}
}

// P11.2: a node is a base, or a delta, by its Base alone: a base's Delta and Next are not asked, nor a delta's Page.
func TestWhatIsABase(t *testing.T) {
	other := leaf("x", "", 0, ref("y", 1))
	a := laid(t, 3, api.Node{Base: true, Page: some, Delta: wrong[1], Next: handle(1, 1), Long: 9},
		api.Node{Page: other, Delta: putC, Next: handle(0, 1), Long: -4}, base(other))
	wantRead(t, a, handle(0, 1), some)
	wantRead(t, a, handle(1, 1), some, putC)
	wantTold(t, a, handle(0, 1), all(a)[0])
	wantTold(t, a, handle(1, 1), all(a)[1], all(a)[0])
	wantLong(t, a, handle(0, 1), 9)
	wantLong(t, a, handle(1, 1), -4)
	want(t, "Free", chain.Free(a, handle(0, 1)), api.OK)
	if a.Live() != 2 || a.Stale() != 0 {
		t.Errorf("Live %d, Stale %d", a.Live(), a.Stale())
	}
}

// P11.2: ErrStale of a head that is not good, or a node on the way; it counts once.
func TestReadOfWhatIsStale(t *testing.T) {
	for _, h := range bad {
		a := laid(t, 5, base(some), base(some))
		refusesRead(t, a, h, api.ErrStale)
		refusesLong(t, a, h, api.ErrStale)
		a = laid(t, 5, change(putC, h))
		refusesRead(t, a, handle(0, 1), api.ErrStale)
		wantLong(t, a, handle(0, 1), 0)
		a = laid(t, 5, change(putC, h), change(noA, handle(0, 1)))
		refusesRead(t, a, handle(1, 1), api.ErrStale)
	}
	a := newArena(t, 4)
	h := begun(t, a, some)
	one := grown(t, a, h, putC)
	two := grown(t, a, one, noA)
	a.Free(one)
	refusesRead(t, a, two, api.ErrStale)
	refusesRead(t, a, one, api.ErrStale)
	wantLong(t, a, two, 2)
	wantRead(t, a, h, some)
	if again := begun(t, a, some); again.Slot != one.Slot {
		t.Fatalf("the slot of %v was not given anew, but %v", one, again)
	}
	refusesRead(t, a, two, api.ErrStale)
	if a.Stale() != 15 {
		t.Errorf("Stale is %d", a.Stale())
	}
}

// P11.2: ErrChain of nodes that come round; nothing counts as stale.
func TestReadOfARing(t *testing.T) {
	rings := [][]api.Node{
		{change(putC, handle(0, 1))},
		{change(putC, handle(1, 1)), change(noA, handle(0, 1))},
		{change(putC, handle(1, 1)), change(noA, handle(2, 1)), change(cutAt, handle(1, 1))},
		{change(putC, handle(1, 1)), change(noA, handle(2, 1)), change(cutAt, handle(3, 1)), change(putC, handle(3, 1))},
		{change(gone(4), handle(1, 1)), change(wrong[2], handle(0, 1)), base(some), base(some)},
	}
	for _, ring := range rings {
		for _, slots := range []int{len(ring), len(ring) + 1, api.MaxSlots} {
			a := laid(t, slots, ring...)
			refusesRead(t, a, handle(0, 1), api.ErrChain)
			wantLong(t, a, handle(0, 1), 0)
			if h, e := chain.Grow(a, handle(0, 1), putC); slots > len(ring) {
				want(t, "Grow", e, api.OK)
				refusesRead(t, a, h, api.ErrChain)
			}
			if a.Stale() != 0 {
				t.Errorf("Stale is %d", a.Stale())
			}
		}
	}
}

// great is an arena of MaxSlots slots, the node of each of which names the one of the slot below; the last one is that of slot 0.
func great(t *testing.T, nodes int, last api.Node) nodes {
	t.Helper()
	a := newArena(t, api.MaxSlots)
	a.Put(last)
	for at := 1; at < nodes; at++ {
		if _, e := a.Put(change(remove("z"), handle(at-1, 1))); e != api.OK {
			t.Fatal(e)
		}
	}
	return a
}

// wantErrors asks all calls that read a chain, of an arena whose nodes are too many to be held against each other each time.
func wantErrors(t *testing.T, a nodes, head api.Handle, wanted api.Errno) {
	t.Helper()
	live := a.Live()
	_, _, e := chain.Read(a, head)
	want(t, "Read", e, wanted)
	_, e = chain.Page(a, head)
	want(t, "Page", e, wanted)
	_, e = chain.Look(a, head, "a")
	want(t, "Look", e, wanted)
	_, e = chain.Pack(a, head)
	want(t, "Pack", e, wanted)
	want(t, "Free", chain.Free(a, head), wanted)
	if a.Live() != live {
		t.Errorf("Live is %d, was %d", a.Live(), live)
	}
}

// P11.2, P11.3: the greatest chain that has a base, and those that have none within MaxSlots nodes.
func TestTheGreatestChains(t *testing.T) {
	most := api.MaxSlots
	head := handle(most-1, 1)
	a := great(t, most, base(some))
	p, l, e := chain.Read(a, head)
	if e != api.OK || !equal(p, some) || len(l) != most-1 {
		t.Errorf("Read = %v, %d deltas, %d", p, len(l), e)
	}
	wantPage(t, a, head, some)
	wantLook(t, a, head, "b", api.Spot{Entry: ref("b", 2), Found: true})
	if got := told(a, head, -1); len(got) != most || !got[most-1].n.Base {
		t.Errorf("Nodes tells %d", len(got))
	}
	if _, e := chain.Pack(a, head); e != api.ErrFull {
		t.Errorf("Pack answered %d", e)
	}
	want(t, "Free", chain.Free(a, head), api.OK)
	if a.Live() != 0 || a.Stale() != 0 {
		t.Errorf("Live %d, Stale %d", a.Live(), a.Stale())
	}

	a = great(t, most, change(putC, api.Handle{})) // MaxSlots nodes, none of them a base: what stands behind them is not asked
	wantErrors(t, a, head, api.ErrChain)
	if got := told(a, head, -1); len(got) != most || a.Stale() != 0 {
		t.Errorf("Nodes tells %d, Stale is %d", len(got), a.Stale())
	}
	wantErrors(t, a, handle(most-2, 1), api.ErrStale)
	if got := told(a, handle(most-2, 1), -1); len(got) != most-1 || a.Stale() != 6 {
		t.Errorf("Nodes tells %d, Stale is %d", len(got), a.Stale())
	}

	a = great(t, most, change(putC, head)) // one ring of all
	wantErrors(t, a, handle(5, 1), api.ErrChain)
	if got := told(a, handle(5, 1), -1); len(got) != most || got[most-1].h != handle(6, 1) {
		t.Errorf("Nodes tells %d", len(got))
	}

	a = great(t, most-1, change(putC, handle(7, 3)))
	wantErrors(t, a, handle(most-2, 1), api.ErrStale)
}

// P11.2: Long is the head's Long, whatever stands behind it.
func TestLong(t *testing.T) {
	for _, long := range []int{0, 1, -1, 77, math.MinInt, math.MaxInt} {
		for _, next := range []api.Handle{{}, handle(0, 1), handle(1, 1)} {
			a := laid(t, 2, api.Node{Long: long, Next: next}, api.Node{Long: 5, Base: true})
			wantLong(t, a, handle(0, 1), long)
			wantLong(t, a, handle(1, 1), 5)
			if a.Stale() != 0 {
				t.Errorf("Stale is %d", a.Stale())
			}
		}
	}
}

// P11.2: Page and Pack answer Fold's error, Look its own.
func TestWhatCannotBeFolded(t *testing.T) {
	for _, c := range []struct {
		p      api.Page
		l      []api.Delta
		wanted api.Errno
	}{
		{leaf("b", "d", 0), []api.Delta{put(ref("z", 1))}, api.ErrOut},
		{leaf("b", "d", 0), []api.Delta{remove("a"), put(ref("c", 1))}, api.ErrOut},
		{some, []api.Delta{merge(leaf("d", "", 0))}, api.ErrMerge},
		{leaf("b", "d", 0), []api.Delta{split("b", 2), split("c", 3)}, api.ErrDelta},
		{some, []api.Delta{putC, gone(3)}, api.ErrGone},
		{some, []api.Delta{gone(2), gone(3), gone(4), gone(3), gone(4), gone(3), putC, gone(3)}, api.ErrGone},
	} {
		a := newArena(t, 20)
		h := grown(t, a, begun(t, a, c.p), c.l...)
		refusesPage(t, a, h, c.wanted)
		refusesPack(t, a, h, c.wanted)
		if c.l[len(c.l)-1].Kind != api.DeltaGone {
			refusesLook(t, a, h, "c", c.wanted)
		}
		want(t, "Free", chain.Free(a, h), api.OK)
	}
	a := laid(t, 3, base(some), change(wrong[0], handle(0, 1)))
	refusesPage(t, a, handle(1, 1), api.ErrDelta)
	refusesPack(t, a, handle(1, 1), api.ErrDelta)
	refusesLook(t, a, handle(1, 1), "a", api.ErrDelta)
}

// P11.2: what Look says of leaves and inner pages.
func TestLook(t *testing.T) {
	a := newArena(t, 20)
	h := grown(t, a, begun(t, a, leaf("a", "", 0, ref("a", 1), ref("b", 2))), putC, noA)
	wantLook(t, a, h, "c", api.Spot{Entry: ref("c", 3), Found: true})
	wantLook(t, a, h, "b", api.Spot{Entry: ref("b", 2), Found: true})
	wantLook(t, a, h, "a", api.Spot{})
	wantLook(t, a, h, "bb", api.Spot{})
	refusesLook(t, a, h, "", api.ErrOut)
	cut := grown(t, a, h, cutAt)
	wantLook(t, a, cut, "c", api.Spot{Go: 7})
	wantLook(t, a, cut, "b", api.Spot{Entry: ref("b", 2), Found: true})
	left := grown(t, a, cut, gone(5))
	wantLook(t, a, left, "b", api.Spot{Go: 5})
	wantLook(t, a, left, "", api.Spot{Go: 5})
	refusesPage(t, a, left, api.ErrGone)
	in := grown(t, a, begun(t, a, inner("", "x", 8, child("", 1), child("c", 2))), put(child("k", 3)))
	wantLook(t, a, in, "b", api.Spot{Entry: child("", 1), Found: true, Go: 1})
	wantLook(t, a, in, "z", api.Spot{Go: 8})
	wantLook(t, a, in, "m", api.Spot{Entry: child("k", 3), Found: true, Go: 3})
	refusesLook(t, a, grown(t, a, in, remove("")), "b", api.ErrOut)
}

// P11.2: Read's error comes first, even where a newest Gone says enough.
func TestLookReadsTheWholeChain(t *testing.T) {
	a := newArena(t, 4)
	h := begun(t, a, some)
	g := grown(t, a, h, gone(5))
	wantLook(t, a, g, "a", api.Spot{Go: 5})
	a.Free(h)
	refusesLook(t, a, g, "a", api.ErrStale)
	a = laid(t, 1, change(gone(5), handle(0, 1)))
	refusesLook(t, a, handle(0, 1), "a", api.ErrChain)
}

// P11.2: Pack begins a chain with the page; the old one stays.
func TestPack(t *testing.T) {
	a := newArena(t, 6)
	h := grown(t, a, begun(t, a, some), putC, noA, cutAt)
	before := told(a, h, -1)
	k, e := chain.Pack(a, h)
	want(t, "Pack", e, api.OK)
	wantNode(t, a, k, base(leaf("", "bb", 7, ref("b", 2))))
	wantTold(t, a, h, before...)
	if k != handle(4, 1) || a.Live() != 5 || a.Stale() != 0 {
		t.Errorf("the handle is %v, Live %d, Stale %d", k, a.Live(), a.Stale())
	}
	again, e := chain.Pack(a, k)
	want(t, "Pack", e, api.OK)
	wantNode(t, a, again, base(leaf("", "bb", 7, ref("b", 2))))
	refusesPack(t, a, h, api.ErrFull)
	want(t, "Free", chain.Free(a, h), api.OK)
	wantPage(t, a, k, leaf("", "bb", 7, ref("b", 2)))
}

// P11.2: Pack answers Begin's error of a page that may not be, ahead of ErrFull.
func TestPackOfAPageThatMayNotBe(t *testing.T) {
	for _, more := range []int{0, 1} {
		a := newArena(t, 2+more)
		h := grown(t, a, begun(t, a, inner("", "", 0, child("", 1))), remove(""))
		wantPage(t, a, h, inner("", "", 0))
		refusesPack(t, a, h, api.ErrPage)
		odd := leaf("", "", -3, ref("b", 1), ref("a", 1))
		a = laid(t, 1+more, base(odd))
		wantPage(t, a, handle(0, 1), odd)
		wantRead(t, a, handle(0, 1), odd)
		refusesPack(t, a, handle(0, 1), api.ErrPage)
	}
}

// P11.3: Nodes tells handles and nodes from the head on, and ends behind a base.
func TestNodes(t *testing.T) {
	a := newArena(t, 9)
	begun(t, a, leaf("x", "", 0))
	h := begun(t, a, some)
	one := grown(t, a, h, putC)
	other := grown(t, a, h, noA)
	two := grown(t, a, one, merge(leaf("bb", "", 4, ref("d", 4))))
	n, n1, n2 := item{h, base(some)}, item{one, api.Node{Delta: putC, Next: h, Long: 1}}, item{two, api.Node{Delta: merge(leaf("bb", "", 4, ref("d", 4))), Next: one, Long: 2}}
	wantTold(t, a, h, n)
	wantTold(t, a, one, n1, n)
	wantTold(t, a, two, n2, n1, n)
	wantTold(t, a, other, item{other, api.Node{Delta: noA, Next: h, Long: 1}}, n)
	if a.Stale() != 0 {
		t.Errorf("Stale is %d", a.Stale())
	}
}

// P11.3: Nodes ends ahead of a handle that is not good, which counts once, when Nodes is called.
func TestNodesOfWhatIsStale(t *testing.T) {
	for _, h := range bad {
		a := laid(t, 2, change(putC, handle(1, 1)), change(noA, h))
		list := all(a)
		stale := a.Stale()
		seq := chain.Nodes(a, handle(0, 1))
		for range 3 {
			if a.Stale() != stale+1 {
				t.Fatalf("Stale is %d", a.Stale())
			}
			var got []item
			for h, n := range seq {
				got = append(got, item{h, n})
			}
			if !slices.EqualFunc(got, list, equalItem) {
				t.Fatalf("%v told, want %v", got, list)
			}
		}
		wantTold(t, a, h)
		if a.Stale() != stale+2 {
			t.Fatalf("Stale is %d", a.Stale())
		}
	}
}

// P11.3: Nodes ends behind MaxSlots nodes, however few there are.
func TestNodesOfARing(t *testing.T) {
	a := laid(t, 5, change(putC, handle(2, 1)), base(some), change(noA, handle(3, 1)), change(cutAt, handle(2, 1)))
	list := all(a)
	got := told(a, handle(0, 1), -1)
	if len(got) != api.MaxSlots {
		t.Fatalf("%d told", len(got))
	}
	for at, x := range got {
		wanted := list[0]
		if at > 0 {
			wanted = list[3-at%2]
		}
		if !equalItem(x, wanted) {
			t.Fatalf("%v told at the place %d, want %v", x, at, wanted)
		}
	}
	if a.Stale() != 0 {
		t.Errorf("Stale is %d", a.Stale())
	}
	a = laid(t, 1, change(putC, handle(0, 1)))
	if got := told(a, handle(0, 1), -1); len(got) != api.MaxSlots {
		t.Errorf("%d told of a ring of one", len(got))
	}
}

// P11.3: Free frees the nodes of the chain, and no others.
func TestFree(t *testing.T) {
	a := newArena(t, 9)
	other := grown(t, a, begun(t, a, leaf("x", "", 0)), put(ref("y", 1)))
	h := begun(t, a, some)
	one := grown(t, a, h, putC)
	two := grown(t, a, one, noA)
	ahead := grown(t, a, two, cutAt)
	want(t, "Free", chain.Free(a, two), api.OK)
	if a.Live() != 3 || a.Stale() != 0 {
		t.Errorf("Live %d, Stale %d", a.Live(), a.Stale())
	}
	for _, gone := range []api.Handle{h, one, two} {
		refusesRead(t, a, gone, api.ErrStale)
		refusesLong(t, a, gone, api.ErrStale)
		wantTold(t, a, gone)
	}
	wantLong(t, a, ahead, 3)
	refusesRead(t, a, ahead, api.ErrStale)
	wantPage(t, a, other, leaf("x", "", 0, ref("y", 1)))
	want(t, "Free again", chain.Free(a, two), api.ErrStale)
	want(t, "Free", chain.Free(a, other), api.OK)
	if got := all(a); len(got) != 1 || got[0].h != ahead {
		t.Errorf("left are %v", got)
	}
	if again := begun(t, a, some); again != handle(0, 2) {
		t.Errorf("the lowest free slot is not given anew, but %v", again)
	}
}

// P11.3: Free asks neither whether the deltas fit nor whether the base may be.
func TestFreeOfWhatCannotBeFolded(t *testing.T) {
	a := laid(t, 4, base(leaf("b", "a", -1)), change(wrong[0], handle(0, 1)), change(gone(2), handle(1, 1)))
	want(t, "Free", chain.Free(a, handle(2, 1)), api.OK)
	if a.Live() != 0 {
		t.Errorf("Live is %d", a.Live())
	}
}

// P11.3: of a chain whose end is stale, or that has none, nothing is freed.
func TestFreeOfABrokenChain(t *testing.T) {
	a := newArena(t, 9)
	h := begun(t, a, some)
	head := grown(t, a, h, putC, noA, cutAt)
	a.Free(h)
	before := all(a)
	want(t, "Free", chain.Free(a, head), api.ErrStale)
	wantLeft(t, a, before, 1)
	a.Set(handle(1, 1), change(putC, handle(3, 1)))
	before = all(a)
	want(t, "Free", chain.Free(a, head), api.ErrChain)
	wantLeft(t, a, before, 1)
}
