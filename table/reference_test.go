package table_test

import (
	"math/rand/v2"
	"testing"

	"cresset/api"
	"cresset/table"
)

// paper is the document's words on a table, written down a second time as lists of the pages in each state, so that what the package does can be held against them.
type paper struct {
	pages  int
	heads  map[int]api.Handle // of the live ones
	gone   map[int]int        // the gone ones
	missed int64
}

func newPaper(pages int) *paper {
	return &paper{pages: pages, heads: map[int]api.Handle{}, gone: map[int]int{}}
}

func (p *paper) state(page int) int {
	if _, ok := p.heads[page]; ok {
		return api.PageLive
	}
	if _, ok := p.gone[page]; ok {
		return api.PageGone
	}
	return api.PageFree
}

func (p *paper) alloc(h api.Handle) (int, api.Errno) {
	if h.Slot == 0 && h.Gen == 0 {
		return 0, api.ErrArg
	}
	for page := range p.pages {
		if p.state(page) == api.PageFree {
			p.heads[page] = h
			return page, api.OK
		}
	}
	return 0, api.ErrFull
}

func (p *paper) load(page int) (api.Handle, api.Errno) {
	h, ok := p.heads[page]
	if !ok {
		return api.Handle{}, api.ErrNone
	}
	return h, api.OK
}

func (p *paper) swap(page int, was, is api.Handle) (bool, api.Errno) {
	h, ok := p.heads[page]
	switch {
	case !ok:
		return false, api.ErrNone
	case is.Slot == 0 && is.Gen == 0:
		return false, api.ErrArg
	case h.Slot != was.Slot || h.Gen != was.Gen:
		p.missed++
		return false, api.OK
	}
	p.heads[page] = is
	return true, api.OK
}

func (p *paper) retire(page int) api.Errno {
	if p.state(page) != api.PageLive {
		return api.ErrNone
	}
	delete(p.heads, page)
	p.gone[page] = 1
	return api.OK
}

func (p *paper) release(page int) api.Errno {
	if p.state(page) != api.PageGone {
		return api.ErrNone
	}
	delete(p.gone, page)
	return api.OK
}

func (p *paper) all() []row {
	var list []row
	for page := range p.pages {
		if h, ok := p.heads[page]; ok {
			list = append(list, row{page, h})
		}
	}
	return list
}

func (p *paper) clone() *paper {
	like := newPaper(p.pages)
	for page, h := range p.heads {
		like.heads[page] = h
	}
	for page := range p.gone {
		like.gone[page] = 1
	}
	like.missed = p.missed
	return like
}

// compare holds all that can be asked of b against p.
func compare(t *testing.T, b *table.Table, p *paper) {
	t.Helper()
	wantCounts(t, b, p.pages, len(p.heads), len(p.gone), p.missed)
	wantAll(t, b, p.all()...)
	for page := -1; page <= p.pages; page++ {
		if got := b.State(page); got != p.state(page) {
			t.Fatalf("State(%d) = %d, want %d", page, got, p.state(page))
		}
		h, e := b.Load(page)
		if wh, we := p.load(page); h != wh || e != we {
			t.Fatalf("Load(%d) = %v, %d, want %v, %d", page, h, e, wh, we)
		}
	}
}

// call is one call that changes a table, or may.
type call struct {
	what    int // 0: Alloc, 1: Swap, 2: Retire, 3: Release
	page    int
	was, is api.Handle
}

// do does one and the same call to both, and holds the answers against each other.
func do(t *testing.T, b *table.Table, p *paper, c call) {
	t.Helper()
	switch c.what {
	case 0:
		page, e := b.Alloc(c.is)
		if wp, we := p.alloc(c.is); page != wp || e != we {
			t.Fatalf("Alloc(%v) = %d, %d, want %d, %d", c.is, page, e, wp, we)
		}
	case 1:
		done, e := b.Swap(c.page, c.was, c.is)
		if wd, we := p.swap(c.page, c.was, c.is); done != wd || e != we {
			t.Fatalf("Swap(%d, %v, %v) = %v, %d, want %v, %d", c.page, c.was, c.is, done, e, wd, we)
		}
	case 2:
		want(t, "Retire", b.Retire(c.page), p.retire(c.page))
	case 3:
		want(t, "Release", b.Release(c.page), p.release(c.page))
	}
}

// calls is all calls on the first pages and one more with x, y and the zero handle.
func calls(pages int) []call {
	handles := []api.Handle{x, y, {}}
	var list []call
	for _, is := range handles {
		list = append(list, call{is: is})
	}
	for page := range pages + 1 {
		for _, was := range handles {
			for _, is := range handles {
				list = append(list, call{what: 1, page: page, was: was, is: is})
			}
		}
		list = append(list, call{what: 2, page: page}, call{what: 3, page: page})
	}
	return list
}

// P10.1 to P10.4: all short runs of calls on tables of one page and of two; a clone is made at each place, so it is held against the words as well.
func TestAllShortRuns(t *testing.T) {
	for i, depth := range []int{4, 3} {
		pages := i + 1
		list := calls(pages)
		var run func(b *table.Table, p *paper, left int)
		run = func(b *table.Table, p *paper, left int) {
			compare(t, b, p)
			if left == 0 {
				return
			}
			for _, c := range list {
				next, like := b.Clone(), p.clone()
				do(t, next, like, c)
				run(next, like, left-1)
			}
			compare(t, b, p)
		}
		run(newTable(t, pages), newPaper(pages), depth)
	}
}

// someCall is mostly one that can be done.
func someCall(r *rand.Rand, p *paper, allocs int) call {
	some := func() api.Handle { return api.Handle{Slot: r.IntN(3), Gen: int64(r.IntN(3))} }
	if r.IntN(20) < allocs {
		return call{is: some()}
	}
	c := call{what: 1 + r.IntN(3), page: r.IntN(p.pages+2) - 1, was: some(), is: some()}
	if h, ok := p.heads[c.page]; ok && r.IntN(2) == 0 {
		c.was = h
	}
	return c
}

// P10.1 to P10.4: long runs of calls, in each of which a clone goes its own way from some place on.
func TestAgainstThePaper(t *testing.T) {
	for seed := range uint64(80) {
		r := rand.New(rand.NewPCG(seed, 10))
		pages := 1 + int(seed%11)
		if seed%20 == 19 {
			pages = 150
		}
		b, p := newTable(t, pages), newPaper(pages)
		allocs := 4 + int(seed%7) // some runs are mostly full, some mostly empty
		for range 150 {
			do(t, b, p, someCall(r, p, allocs))
			compare(t, b, p)
		}
		c, q := b.Clone(), p.clone()
		for range 100 {
			do(t, b, p, someCall(r, p, allocs))
			compare(t, b, p)
			compare(t, c, q)
			do(t, c, q, someCall(r, q, 14-allocs))
			compare(t, b, p)
			compare(t, c, q)
		}
	}
}
