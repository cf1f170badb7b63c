package tree

import (
	"cresset/api"
	"cresset/arena"
	"cresset/chain"
	"cresset/delta"
	"cresset/page"
	"cresset/table"
)

// view is a page as it was seen, and the head by which it is known whether it is so still.
type view struct {
	head   api.Handle
	page   api.Page
	deltas int
}

// shelf has pages by their numbers, in nodes of any type: what the nodes behind a head make of a page, and how many deltas they are, is told by a function over them.
type shelf[N any] struct {
	nodes *arena.Arena[N]
	pages *table.Table
	fold  func(nodes *arena.Arena[N], head api.Handle) (api.Page, int, api.Errno)
}

// look is a page as it is; api.ErrNone, if it is not live.
func (s *shelf[N]) look(n int) (view, api.Errno) {
	head, e := s.pages.Load(n)
	if e != api.OK {
		return view{}, e
	}
	p, deltas, e := s.fold(s.nodes, head)
	if e != api.OK {
		return view{}, e
	}
	return view{head, p, deltas}, api.OK
}

// free is how many slots of the arena are.
func (s *shelf[N]) free() int { return s.nodes.Slots() - s.nodes.Live() }

// swap changes a page's head. If another one has changed it, the new node is given back at once: nobody has seen it.
func (s *shelf[N]) swap(n int, was, is api.Handle) bool {
	done, _ := s.pages.Swap(n, was, is)
	if !done {
		s.nodes.Free(is)
	}
	return done
}

// giveBack takes a new page away, which no other page has named, so that nobody can reach it.
func (s *shelf[N]) giveBack(x fresh) {
	s.pages.Retire(x.number)
	s.pages.Release(x.number)
	s.nodes.Free(x.head)
}

// entries is what the leaves have, from the left one on. No page is gone through twice; that the pages are counted is for a tree whose nodes were freed while they were in use.
func (s *shelf[N]) entries() []api.Entry {
	var list []api.Entry
	n, low := root, ""
	for range s.pages.Live() {
		v, e := s.look(n)
		if e != api.OK {
			break
		}
		if !v.page.Leaf {
			first, _ := page.Find(v.page, low)
			n = first.Child
			continue
		}
		for x := range page.From(v.page, low) {
			list = append(list, x)
		}
		if v.page.High == "" {
			break
		}
		n, low = v.page.Right, v.page.High
	}
	return list
}

// fold is the page that a chain makes, and how many deltas it has.
func fold(nodes *arena.Arena[api.Node], head api.Handle) (api.Page, int, api.Errno) {
	base, deltas, e := chain.Read(nodes, head)
	if e != api.OK {
		return api.Page{}, 0, e
	}
	p, e := delta.Fold(base, deltas...)
	if e != api.OK {
		return api.Page{}, 0, e
	}
	return p, len(deltas), api.OK
}
