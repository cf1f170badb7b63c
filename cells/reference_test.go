package cells_test

import (
	"math/rand/v2"
	"slices"
	"testing"

	"cresset/api"
	"cresset/cells"
)

// pastCell is the document's words on a cell, written down a second time as all values that it ever had.
type pastCell []int

func (p pastCell) value() int { return p[len(p)-1] }

func (p pastCell) changed() int64 { return int64(len(p) - 1) }

// oldCell is a cell that was cloned, and what it had then.
type oldCell struct {
	c *cells.Cell[int]
	p pastCell
}

// cellPair is a cell beside its paper.
type cellPair struct {
	c   *cells.Cell[int]
	p   pastCell
	old []oldCell
}

func newCellPair(x int) *cellPair { return &cellPair{c: cells.NewCell(x), p: pastCell{x}} }

// act does a call by its number, from 0 to 12, of values from 0 to 2: nine swaps, three sets, a clone with which it goes on.
func (q *cellPair) act(t *testing.T, what int) {
	t.Helper()
	switch x := what % 3; {
	case what < 9:
		was := what / 3
		ok := q.p.value() == was
		wantSwap(t, q.c, was, x, ok)
		if ok {
			q.p = append(q.p, x)
		}
	case what < 12:
		q.p = append(q.p, x)
		wantSet(t, q.c, x, q.p.changed())
	default:
		q.old = append(q.old, oldCell{q.c, slices.Clone(q.p)})
		q.c = q.c.Clone()
	}
	wantCell(t, q.c, q.p.value(), q.p.changed())
	for _, o := range q.old {
		wantCell(t, o.c, o.p.value(), o.p.changed())
	}
}

// P8.1, P8.3: all runs of four calls, from each of the values.
func TestAllShortRunsOfACell(t *testing.T) {
	const calls, long = 13, 4
	runs := 1
	for range long {
		runs *= calls
	}
	for first := range 3 {
		for run := range runs {
			q := newCellPair(first)
			for n, i := run, 0; i < long; n, i = n/calls, i+1 {
				q.act(t, n%calls)
			}
		}
	}
}

// P8.1, P8.3: long runs; the count never falls.
func TestLongRunsOfACell(t *testing.T) {
	for seed := range uint64(40) {
		r := rand.New(rand.NewPCG(seed, 8))
		q := newCellPair(int(seed % 3))
		last := int64(0)
		for range 300 {
			what := r.IntN(12)
			if r.IntN(40) == 0 {
				what = 12
			}
			q.act(t, what)
			_, n := q.c.Load()
			if n < last || n > last+1 {
				t.Fatalf("changed %d times, then %d", last, n)
			}
			last = n
		}
	}
}

// pastBox is the document's words on a box, written down a second time as all that was ever put, and how many of them were taken.
type pastBox struct {
	room, taken int
	put         []int
}

func (p *pastBox) waits() []int { return p.put[p.taken:] }

func (p *pastBox) add(x int) api.Errno {
	if len(p.waits()) == p.room {
		return api.ErrFull
	}
	p.put = append(p.put, x)
	return api.OK
}

func (p *pastBox) take() (int, api.Errno) {
	if len(p.waits()) == 0 {
		return 0, api.ErrNone
	}
	p.taken++
	return p.put[p.taken-1], api.OK
}

func (p *pastBox) clone() *pastBox {
	return &pastBox{room: p.room, taken: p.taken, put: slices.Clone(p.put)}
}

// boxPair is a box beside its paper; past holds those that were cloned on the way.
type boxPair struct {
	b    *cells.Box[int]
	p    *pastBox
	past []boxPair
	next int
}

func newBoxPair(t *testing.T, room int) *boxPair {
	return &boxPair{b: newBox[int](t, room), p: &pastBox{room: room}, next: 1}
}

// act does a call by its number: 0 puts, 1 takes, 2 goes on with a clone, 3 goes back to one that was cloned.
func (q *boxPair) act(t *testing.T, what int) {
	t.Helper()
	switch what {
	case 0:
		wantPut(t, q.b, q.next, q.p.add(q.next))
		q.next++
	case 1:
		x, e := q.b.Take()
		if y, f := q.p.take(); x != y || e != f {
			t.Fatalf("Take() = %d, %d, want %d, %d", x, e, y, f)
		}
	case 2:
		q.past = append(q.past, boxPair{b: q.b, p: q.p})
		q.b, q.p = q.b.Clone(), q.p.clone()
	case 3:
		if n := len(q.past); n > 0 {
			q.b, q.past[n-1].b = q.past[n-1].b, q.b
			q.p, q.past[n-1].p = q.past[n-1].p, q.p
		}
	}
	q.hold(t)
}

// hold holds all that can be asked without a change against the papers.
func (q *boxPair) hold(t *testing.T) {
	t.Helper()
	wantCounts(t, q.b, len(q.p.waits()), q.p.room)
	for _, o := range q.past {
		wantCounts(t, o.b, len(o.p.waits()), o.p.room)
	}
}

// end takes all that wait anywhere.
func (q *boxPair) end(t *testing.T) {
	t.Helper()
	for _, o := range append(q.past, boxPair{b: q.b, p: q.p}) {
		wantAll(t, o.b, o.p.waits()...)
	}
}

// P8.2, P8.4: all runs of seven calls, clones among them, in boxes of one to three.
func TestAllShortRunsOfABox(t *testing.T) {
	const calls, long = 4, 7
	runs := 1
	for range long {
		runs *= calls
	}
	for room := 1; room <= 3; room++ {
		for run := range runs {
			q := newBoxPair(t, room)
			for n, i := run, 0; i < long; n, i = n/calls, i+1 {
				q.act(t, n%calls)
			}
			q.end(t)
		}
	}
}

// P8.2, P8.4: long runs, some mostly full, some mostly empty.
func TestLongRunsOfABox(t *testing.T) {
	for seed := range uint64(60) {
		r := rand.New(rand.NewPCG(seed, 88))
		q := newBoxPair(t, 1+int(seed*seed%50))
		puts := 3 + int(seed%5)
		for range 500 {
			switch n := r.IntN(10); {
			case r.IntN(60) == 0:
				q.act(t, 2+r.IntN(2))
			case n < puts:
				q.act(t, 0)
			default:
				q.act(t, 1)
			}
		}
		q.end(t)
	}
}
