package chain_test

import (
	"math/rand/v2"
	"slices"
	"testing"

	"cresset/api"
	"cresset/chain"
	"cresset/delta"
	"cresset/page"
)

// paper is the document's words on chains, written down a second time over slots of its own, so that what the package does can be held against them.
type paper struct {
	size  int
	gens  []int64     // of each slot, how often it was given
	has   []*api.Node // of each slot, what it has (nil: it is free); never written to
	stale int64
}

func newPaper(slots int) *paper {
	return &paper{size: slots, gens: make([]int64, slots), has: make([]*api.Node, slots)}
}

func (p *paper) clone() *paper {
	like := newPaper(p.size)
	copy(like.gens, p.gens)
	copy(like.has, p.has)
	like.stale = p.stale
	return like
}

func (p *paper) put(n api.Node) (api.Handle, api.Errno) {
	for slot := range p.size {
		if p.has[slot] == nil {
			p.gens[slot]++
			p.has[slot] = &n
			return api.Handle{Slot: slot, Gen: p.gens[slot]}, api.OK
		}
	}
	return api.Handle{}, api.ErrFull
}

func (p *paper) get(h api.Handle) *api.Node {
	if h.Slot >= 0 && h.Slot < p.size && p.has[h.Slot] != nil && p.gens[h.Slot] == h.Gen {
		return p.has[h.Slot]
	}
	p.stale++
	return nil
}

func (p *paper) all() []item {
	var list []item
	for slot := range p.size {
		if n := p.has[slot]; n != nil {
			list = append(list, item{api.Handle{Slot: slot, Gen: p.gens[slot]}, *n})
		}
	}
	return list
}

func (p *paper) begin(x api.Page) (api.Handle, api.Errno) {
	if e := page.Check(x); e != api.OK {
		return api.Handle{}, e
	}
	return p.put(api.Node{Base: true, Page: x})
}

func (p *paper) grow(head api.Handle, d api.Delta) (api.Handle, api.Errno) {
	if e := delta.Check(d); e != api.OK {
		return api.Handle{}, e
	}
	n := p.get(head)
	if n == nil {
		return api.Handle{}, api.ErrStale
	}
	return p.put(api.Node{Delta: d, Next: head, Long: n.Long + 1})
}

// first is how many nodes of a ring are written down.
const first = 20

// walk is the handles of a chain, and how it ended: OK is behind a base.
func (p *paper) walk(head api.Handle) ([]api.Handle, api.Errno) {
	var list []api.Handle
	for range api.MaxSlots {
		n := p.get(head)
		if n == nil {
			return list, api.ErrStale
		}
		if len(list) < first {
			list = append(list, head)
		}
		if n.Base {
			return list, api.OK
		}
		head = n.Next
	}
	return list, api.ErrChain
}

func (p *paper) read(head api.Handle) (api.Page, []api.Delta, api.Errno) {
	list, e := p.walk(head)
	if e != api.OK {
		return api.Page{}, nil, e
	}
	var l []api.Delta
	for _, h := range list[:len(list)-1] {
		l = append(l, p.has[h.Slot].Delta)
	}
	return p.has[list[len(list)-1].Slot].Page, l, api.OK
}

func (p *paper) page(head api.Handle) (api.Page, api.Errno) {
	x, l, e := p.read(head)
	if e != api.OK {
		return api.Page{}, e
	}
	return delta.Fold(x, l...)
}

func (p *paper) look(head api.Handle, key string) (api.Spot, api.Errno) {
	x, l, e := p.read(head)
	if e != api.OK {
		return api.Spot{}, e
	}
	return delta.Look(x, key, l...)
}

func (p *paper) long(head api.Handle) (int, api.Errno) {
	n := p.get(head)
	if n == nil {
		return 0, api.ErrStale
	}
	return n.Long, api.OK
}

func (p *paper) pack(head api.Handle) (api.Handle, api.Errno) {
	x, e := p.page(head)
	if e != api.OK {
		return api.Handle{}, e
	}
	return p.begin(x)
}

// nodes is the first ones that are told.
func (p *paper) nodes(head api.Handle) []item {
	var told []item
	list, _ := p.walk(head)
	for _, h := range list {
		told = append(told, item{h, *p.has[h.Slot]})
	}
	return told
}

func (p *paper) free(head api.Handle) api.Errno {
	list, e := p.walk(head)
	if e != api.OK {
		return e
	}
	for _, h := range list {
		p.has[h.Slot] = nil
	}
	return api.OK
}

// compare holds what the arena has against p.
func compare(t *testing.T, a nodes, p *paper) {
	t.Helper()
	if got, wanted := all(a), p.all(); !slices.EqualFunc(got, wanted, equalItem) {
		t.Fatalf("the arena has %v, want %v", got, wanted)
	}
	if a.Stale() != p.stale {
		t.Fatalf("Stale is %d, want %d", a.Stale(), p.stale)
	}
}

// ask asks both all that changes no node, and holds the answers against each other.
func ask(t *testing.T, a nodes, p *paper, head api.Handle) {
	t.Helper()
	x, l, e := chain.Read(a, head)
	if wx, wl, we := p.read(head); e != we || !equal(x, wx) || !slices.EqualFunc(l, wl, equalDelta) {
		t.Fatalf("Read(%v) = %v, %v, %d, want %v, %v, %d", head, x, l, e, wx, wl, we)
	}
	x, e = chain.Page(a, head)
	if wx, we := p.page(head); e != we || !equal(x, wx) {
		t.Fatalf("Page(%v) = %v, %d, want %v, %d", head, x, e, wx, we)
	}
	for _, key := range []string{"", "a", "b", "bb", "c", "d"} {
		s, e := chain.Look(a, head, key)
		if ws, we := p.look(head, key); e != we || s != ws {
			t.Fatalf("Look(%v, %q) = %v, %d, want %v, %d", head, key, s, e, ws, we)
		}
	}
	n, e := chain.Long(a, head)
	if wn, we := p.long(head); e != we || n != wn {
		t.Fatalf("Long(%v) = %d, %d, want %d, %d", head, n, e, wn, we)
	}
	if got, wanted := told(a, head, first), p.nodes(head); !slices.EqualFunc(got, wanted, equalItem) {
		t.Fatalf("Nodes(%v) tells %v, want %v", head, got, wanted)
	}
}

// call is one call that may change nodes.
type call struct {
	what int // 0: Begin, 1: Grow, 2: Pack, 3: Free; and of the arena itself, 4: Put, 5: Set, 6: Free
	head api.Handle
	page api.Page
	d    api.Delta
	n    api.Node
}

// do does one and the same call to both, and holds the answers against each other.
func do(t *testing.T, a nodes, p *paper, c call) api.Handle {
	t.Helper()
	var h, wh api.Handle
	var e, we api.Errno
	switch c.what {
	case 0:
		h, e = chain.Begin(a, c.page)
		wh, we = p.begin(c.page)
	case 1:
		h, e = chain.Grow(a, c.head, c.d)
		wh, we = p.grow(c.head, c.d)
	case 2:
		h, e = chain.Pack(a, c.head)
		wh, we = p.pack(c.head)
	case 3:
		e = chain.Free(a, c.head)
		we = p.free(c.head)
	case 4:
		h, e = a.Put(c.n)
		wh, we = p.put(c.n)
	case 5, 6:
		we = api.ErrStale
		if p.get(c.head) != nil {
			we = api.OK
			p.has[c.head.Slot] = &c.n
		}
		if c.what == 5 {
			e = a.Set(c.head, c.n)
		} else if e = a.Free(c.head); e == api.OK {
			p.has[c.head.Slot] = nil
		}
	}
	if h != wh || e != we {
		t.Fatalf("the call %v = %v, %d, want %v, %d", c, h, e, wh, we)
	}
	return h
}

// P11.1 to P11.3: all arenas of three slots in which each is free, a base, or a delta with each handle behind it; each call of each head.
func TestAllSmallArenas(t *testing.T) {
	handles := []api.Handle{handle(0, 2), handle(1, 2), handle(2, 2), handle(0, 1)}
	deltas := []api.Delta{putC, noA, merge(leaf("bb", "", 4, ref("c", 9)))}
	var list []int // by slots: 0: free, 1: a base, 2 and so on: a delta with handles[n - 2] behind it
	var try func()
	try = func() {
		if len(list) < 3 {
			for kind := range 2 + len(handles) {
				list = append(list, kind)
				try()
				list = list[:len(list)-1]
			}
			return
		}
		a, p := newArena(t, 3), newPaper(3)
		for range list {
			do(t, a, p, call{what: 4})
		}
		for at := range list {
			do(t, a, p, call{what: 6, head: handle(at, 1)})
		}
		for at, kind := range list {
			n := base(leaf("", "bb", at, ref("a", at)))
			if kind > 1 {
				n = api.Node{Delta: deltas[at], Next: handles[kind-2], Long: kind}
			}
			do(t, a, p, call{what: 4, n: n})
		}
		for at, kind := range list {
			if kind == 0 {
				do(t, a, p, call{what: 6, head: handle(at, 2)})
			}
		}
		for _, head := range handles {
			ask(t, a, p, head)
			for _, c := range []call{{what: 1, head: head, d: noA}, {what: 2, head: head}, {what: 3, head: head}} {
				b, q := a.Clone(), p.clone()
				do(t, b, q, c)
				compare(t, b, q)
			}
		}
		compare(t, a, p)
	}
	try()
}

// P11.1 to P11.3: all short runs of calls on two slots and on three.
func TestAllShortRuns(t *testing.T) {
	for slots := 2; slots <= 3; slots++ {
		var run func(a nodes, p *paper, heads []api.Handle, left int)
		run = func(a nodes, p *paper, heads []api.Handle, left int) {
			compare(t, a, p)
			if left == 0 {
				for _, head := range heads {
					ask(t, a, p, head)
				}
				return
			}
			list := []call{{page: some}, {page: leaf("", "bb", 3)}, {page: leaf("b", "b", 0)}}
			for _, head := range heads {
				list = append(list, call{what: 1, head: head, d: putC}, call{what: 1, head: head, d: gone(2)},
					call{what: 1, head: head}, call{what: 2, head: head}, call{what: 3, head: head})
			}
			for _, c := range list {
				b, q := a.Clone(), p.clone()
				more := slices.Clone(heads)
				if h := do(t, b, q, c); h != (api.Handle{}) {
					more = append(more, h)
				}
				run(b, q, more, left-1)
			}
			compare(t, a, p)
		}
		run(newArena(t, slots), newPaper(slots), nil, 4)
	}
}

// someDelta is mostly one that may be.
func someDelta(r *rand.Rand) api.Delta {
	key := []string{"", "a", "aa", "b", "bb", "c", "d"}[r.IntN(7)]
	switch r.IntN(12) {
	case 0, 1, 2, 3:
		return put(ref(key, r.IntN(9)))
	case 4, 5, 6:
		return remove(key)
	case 7:
		return split(key, r.IntN(4))
	case 8, 9:
		return merge(somePage(r))
	case 10:
		return gone(r.IntN(4))
	}
	return wrong[r.IntN(len(wrong))]
}

// somePage is mostly one that may be.
func somePage(r *rand.Rand) api.Page {
	low, high := []string{"", "", "bb"}[r.IntN(3)], []string{"", "bb", "d"}[r.IntN(3)]
	p := leaf(low, high, r.IntN(3))
	if r.IntN(3) == 0 {
		p = inner(low, high, r.IntN(3), child(low, 1+r.IntN(5)))
	}
	for _, key := range []string{"a", "b", "c"} {
		if r.IntN(2) == 0 && page.Has(p, key) {
			e := ref(key, r.IntN(9))
			if !p.Leaf {
				e = child(key, 1+r.IntN(9))
			}
			p.List = append(p.List, e)
		}
	}
	return p
}

// P11.1 to P11.3: long runs of calls, with the arena's own among them that make rings, odd nodes and handles that are not good.
func TestAgainstThePaper(t *testing.T) {
	for seed := range uint64(150) {
		r := rand.New(rand.NewPCG(seed, 11))
		slots := 1 + int(seed%14)
		a, p := newArena(t, slots), newPaper(slots)
		heads := []api.Handle{{}, handle(0, 1)}
		some := func() api.Handle {
			if r.IntN(3) == 0 {
				return heads[r.IntN(len(heads))]
			}
			return heads[len(heads)-1-r.IntN(min(6, len(heads)))]
		}
		for range 250 {
			c := call{what: r.IntN(4), head: some(), page: somePage(r), d: someDelta(r)}
			if r.IntN(3) == 0 {
				c.what = 1
			}
			if seed%3 == 0 && r.IntN(8) == 0 {
				c.what = 4 + r.IntN(3)
				c.n = api.Node{Base: r.IntN(3) == 0, Page: somePage(r), Delta: someDelta(r), Next: some(), Long: r.IntN(9) - 4}
			}
			if h := do(t, a, p, c); h != (api.Handle{}) {
				heads = append(heads, h)
			}
			compare(t, a, p)
			ask(t, a, p, some())
			compare(t, a, p)
		}
	}
}

// The paper itself reads as an arena does.
func TestThePaperIsAnArena(t *testing.T) {
	a, p := newArena(t, 2), newPaper(2)
	for _, c := range []call{{what: 4}, {what: 4}, {what: 4}, {what: 6, head: handle(0, 1)}, {what: 6, head: handle(0, 1)}, {what: 4}, {what: 5, head: handle(0, 2), n: base(some)}} {
		do(t, a, p, c)
		compare(t, a, p)
	}
}
