package oracle_test

import (
	"maps"
	"math/rand/v2"
	"testing"

	"cresset/api"
	"cresset/oracle"
)

// paper is the document's words on an oracle, written down a second time: what New was given, of each timestamp that Next gave whether it is published, the snapshots. All else is worked out anew each time.
type paper struct {
	first int64
	there []bool // of first+1, first+2 and so on
	views map[int]int64
}

func newPaper(first int64) *paper { return &paper{first: first, views: map[int]int64{}} }

func (p *paper) last() int64 { return p.first + int64(len(p.there)) }

func (p *paper) next() (int64, api.Errno) {
	if p.last() == maxTS {
		return 0, api.ErrFull
	}
	p.there = append(p.there, false)
	return p.last(), api.OK
}

func (p *paper) publish(ts int64) api.Errno {
	for i, there := range p.there {
		if p.first+int64(i)+1 == ts && !there {
			p.there[i] = true
			return api.OK
		}
	}
	return api.ErrArg
}

func (p *paper) pending() []int64 {
	var list []int64
	for i, there := range p.there {
		if !there {
			list = append(list, p.first+int64(i)+1)
		}
	}
	return list
}

// published is P14.4's words on it.
func (p *paper) published() int64 {
	if list := p.pending(); len(list) > 0 {
		return list[0] - 1
	}
	return p.last()
}

func isSession(s int) bool { return s >= 0 && s < 17 }

func (p *paper) open(s int) (int64, api.Errno) {
	if !isSession(s) {
		return 0, api.ErrArg
	}
	if _, ok := p.views[s]; ok {
		return 0, api.ErrOpen
	}
	p.views[s] = p.published()
	return p.views[s], api.OK
}

func (p *paper) shut(s int) api.Errno {
	if !isSession(s) {
		return api.ErrArg
	}
	if _, ok := p.views[s]; !ok {
		return api.ErrShut
	}
	delete(p.views, s)
	return api.OK
}

func (p *paper) watermark() int64 {
	least := p.published()
	for _, ts := range p.views {
		least = min(least, ts)
	}
	return least
}

func (p *paper) clone() *paper {
	return &paper{first: p.first, there: append([]bool{}, p.there...), views: maps.Clone(p.views)}
}

// compare holds all that can be asked of o against p.
func compare(t *testing.T, o *oracle.Oracle, p *paper) {
	t.Helper()
	wantAt(t, o, p.last(), p.published(), p.watermark())
	wantPending(t, o, p.pending()...)
	for s := -1; s <= 17; s++ {
		if ts, ok := p.views[s]; ok {
			wantView(t, o, s, ts)
		} else {
			wantNoView(t, o, s)
		}
	}
}

// pair is an oracle and what the document says of it.
type pair struct {
	o *oracle.Oracle
	p *paper
}

func newPair(t *testing.T, first int64) pair { return pair{begin(t, first), newPaper(first)} }

func (x pair) clone() pair { return pair{x.o.Clone(), x.p.clone()} }

func (x pair) next(t *testing.T) {
	t.Helper()
	got, e := x.o.Next()
	wanted, we := x.p.next()
	if got != wanted || e != we {
		t.Fatalf("Next = %d, %d, want %d, %d", got, e, wanted, we)
	}
}

func (x pair) publish(t *testing.T, ts int64) {
	t.Helper()
	want(t, "Publish", x.o.Publish(ts), x.p.publish(ts))
}

func (x pair) open(t *testing.T, s int) {
	t.Helper()
	got, e := x.o.Open(s)
	wanted, we := x.p.open(s)
	if got != wanted || e != we {
		t.Fatalf("Open(%d) = %d, %d, want %d, %d", s, got, e, wanted, we)
	}
}

func (x pair) shut(t *testing.T, s int) {
	t.Helper()
	want(t, "Close", x.o.Close(s), x.p.shut(s))
}

// act does one and the same random call to both, and holds all against each other; what must never fall does not (P14.3).
func (x pair) act(t *testing.T, r *rand.Rand, sessions int) {
	t.Helper()
	published, watermark := x.o.Published(), x.o.Watermark()
	s := 16 - r.IntN(sessions)
	if r.IntN(10) == 0 {
		s = r.IntN(19) - 1
	}
	switch what := r.IntN(20); {
	case what < 5:
		x.next(t)
	case what < 8:
		x.publish(t, x.p.first-2+r.Int64N(int64(len(x.p.there))+5)) // also what may not be
	case what < 12:
		if list := x.p.pending(); len(list) > 0 {
			x.publish(t, list[r.IntN(len(list))])
		}
	case what < 16:
		x.open(t, s)
	default:
		x.shut(t, s)
	}
	compare(t, x.o, x.p)
	if x.o.Published() < published || x.o.Watermark() < watermark {
		t.Fatalf("Published fell from %d to %d, or Watermark from %d to %d", published, x.o.Published(), watermark, x.o.Watermark())
	}
	if x.o.Watermark() > x.o.Published() || x.o.Published() > x.o.Last() {
		t.Fatalf("Watermark %d, Published %d, Last %d", x.o.Watermark(), x.o.Published(), x.o.Last())
	}
}

// finish publishes all that is pending, in a random order (P14.4).
func (x pair) finish(t *testing.T, r *rand.Rand) {
	t.Helper()
	list := x.p.pending()
	r.Shuffle(len(list), func(i, k int) { list[i], list[k] = list[k], list[i] })
	for _, ts := range list {
		x.publish(t, ts)
		compare(t, x.o, x.p)
	}
	if x.o.Published() != x.o.Last() {
		t.Fatalf("all are published, and Published is %d, Last %d", x.o.Published(), x.o.Last())
	}
}

// P14.1 to P14.4: long runs of calls, from the beginning and up to the last timestamp, in each of which a clone goes its own way from some place on; at the end all is published.
func TestAgainstThePaper(t *testing.T) {
	for seed := range uint64(300) {
		r := rand.New(rand.NewPCG(seed, 14))
		first := []int64{0, 1, 1000, maxTS - 30, maxTS - 2, maxTS}[seed%6]
		x := newPair(t, first)
		compare(t, x.o, x.p)
		sessions := 1 + int(seed%17)
		for range 100 {
			x.act(t, r, sessions)
		}
		c := x.clone()
		for range 80 {
			x.act(t, r, sessions)
			compare(t, c.o, c.p)
			c.act(t, r, sessions)
			compare(t, x.o, x.p)
		}
		x.finish(t, r)
		c.finish(t, r)
	}
}

// P14.1 to P14.4: all short runs of calls, with two sessions.
func TestAllShortRuns(t *testing.T) {
	var try func(x pair, left int)
	try = func(x pair, left int) {
		compare(t, x.o, x.p)
		if left == 0 {
			return
		}
		acts := []func(c pair){
			func(c pair) { c.next(t) },
			func(c pair) { c.open(t, 0) },
			func(c pair) { c.open(t, 16) },
			func(c pair) { c.shut(t, 0) },
			func(c pair) { c.shut(t, 16) },
		}
		for ts := x.p.first; ts <= x.p.last()+1; ts++ {
			acts = append(acts, func(c pair) { c.publish(t, ts) })
		}
		for _, act := range acts {
			c := x.clone()
			act(c)
			try(c, left-1)
		}
		compare(t, x.o, x.p)
	}
	try(newPair(t, 0), 5)
	try(newPair(t, maxTS-2), 5)
}
