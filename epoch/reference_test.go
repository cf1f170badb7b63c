package epoch_test

import (
	"math/rand/v2"
	"slices"
	"testing"

	"cresset/api"
	"cresset/epoch"
)

// past is that something was retired once: when, who was pinned then and has not been unpinned since, whether it was answered.
type past struct {
	at       int64
	x        api.Retired
	reach    []int
	answered bool
}

// paper is the document's words on an epoch, written down a second time as a list of all that was ever retired, so that what the package does can be held against them.
type paper struct {
	now  int64
	pins map[int]int64
	past []past
}

func newPaper() *paper { return &paper{now: 1, pins: map[int]int64{}} }

func isSession(s int) bool {
	return slices.Contains([]int{0, 1, 2, 3, 4, 5, 6, 7, 8, 9, 10, 11, 12, 13, 14, 15, 16}, s)
}

func (p *paper) pin(s int) api.Errno {
	if !isSession(s) {
		return api.ErrArg
	}
	if _, ok := p.pins[s]; ok {
		return api.ErrPinned
	}
	p.pins[s] = p.now
	return api.OK
}

func (p *paper) unpin(s int) api.Errno {
	if !isSession(s) {
		return api.ErrArg
	}
	if _, ok := p.pins[s]; !ok {
		return api.ErrLoose
	}
	delete(p.pins, s)
	for i, x := range p.past {
		p.past[i].reach = slices.DeleteFunc(slices.Clone(x.reach), func(other int) bool { return other == s })
	}
	return api.OK
}

func (p *paper) retire(x api.Retired) {
	var reach []int
	for s := range p.pins {
		reach = append(reach, s)
	}
	p.past = append(p.past, past{at: p.now, x: x, reach: reach})
}

func (p *paper) advance(t *testing.T) ([]api.Retired, api.Errno) {
	t.Helper()
	for _, at := range p.pins {
		if at < p.now {
			return nil, api.ErrHeld
		}
	}
	p.now++
	var free []api.Retired
	for i, x := range p.past {
		if x.at == p.now-2 {
			if x.answered || len(x.reach) > 0 { // P6.3, P6.5
				t.Fatalf("%v is answered again, or %v can reach it", x.x, x.reach)
			}
			free = append(free, x.x)
			p.past[i].answered = true
		}
	}
	return free, api.OK
}

func (p *paper) limbo() []item {
	var list []item
	for _, x := range p.past {
		if !x.answered {
			list = append(list, item{x.at, x.x})
		}
	}
	return list
}

func (p *paper) clone() *paper {
	c := &paper{now: p.now, pins: map[int]int64{}, past: slices.Clone(p.past)}
	for s, at := range p.pins {
		c.pins[s] = at
	}
	return c
}

// compare holds all that can be asked of e against p.
func compare(t *testing.T, e *epoch.Epoch, p *paper) {
	t.Helper()
	if e.Now() != p.now {
		t.Fatalf("Now is %d, want %d", e.Now(), p.now)
	}
	for s := -1; s <= 17; s++ {
		wantPinned(t, e, s, p.pins[s])
	}
	wantLimbo(t, e, p.limbo()...)
	for at := range e.Limbo() { // P6.4
		if at != e.Now() && at != e.Now()-1 {
			t.Fatalf("what was retired in %d waits at %d", at, e.Now())
		}
	}
}

// act does one and the same random call to both, and holds the answers against each other.
func act(t *testing.T, r *rand.Rand, e *epoch.Epoch, p *paper, sessions int) {
	t.Helper()
	s := 16 - r.IntN(sessions)
	if r.IntN(10) == 0 {
		s = r.IntN(19) - 1
	}
	switch what := r.IntN(20); {
	case what < 4:
		want(t, "Pin", e.Pin(s), p.pin(s))
	case what < 9:
		want(t, "Unpin", e.Unpin(s), p.unpin(s))
	case what < 15:
		x := thing(r.IntN(50))
		want(t, "Retire", e.Retire(x), api.OK)
		p.retire(x)
	default:
		got, f := e.Advance()
		wanted, wf := p.advance(t)
		if f != wf || !slices.Equal(got, wanted) {
			t.Fatalf("Advance = %v, %d, want %v, %d", got, f, wanted, wf)
		}
	}
}

// P6.1 to P6.5: long runs of calls, in each of which a clone goes its own way from some place on; at the end all that waits comes out.
func TestAgainstThePaper(t *testing.T) {
	for seed := range uint64(120) {
		r := rand.New(rand.NewPCG(seed, 6))
		sessions := 1 + int(seed%17)
		e, p := epoch.New(), newPaper()
		compare(t, e, p)
		for range 100 {
			act(t, r, e, p, sessions)
			compare(t, e, p)
		}
		c, q := e.Clone(), p.clone()
		for range 80 {
			act(t, r, e, p, sessions)
			compare(t, e, p)
			compare(t, c, q)
			act(t, r, c, q, sessions)
			compare(t, e, p)
			compare(t, c, q)
		}
		empty(t, e, p)
		empty(t, c, q)
	}
}

// empty unpins all: two Advances answer all that waits, and of all that was ever retired each was answered once.
func empty(t *testing.T, e *epoch.Epoch, p *paper) {
	t.Helper()
	for s := range 17 {
		want(t, "Unpin", e.Unpin(s), p.unpin(s))
	}
	for range 2 {
		got, f := e.Advance()
		wanted, _ := p.advance(t)
		if f != api.OK || !slices.Equal(got, wanted) {
			t.Fatalf("Advance = %v, %d, want %v", got, f, wanted)
		}
	}
	wantLimbo(t, e)
	for _, x := range p.past {
		if !x.answered {
			t.Fatalf("%v, retired in %d, was never answered", x.x, x.at)
		}
	}
}

// P6.1 to P6.5: all short runs of calls with two sessions.
func TestAllShortRuns(t *testing.T) {
	var try func(e *epoch.Epoch, p *paper, left int)
	try = func(e *epoch.Epoch, p *paper, left int) {
		compare(t, e, p)
		if left == 0 {
			return
		}
		for what := range 6 {
			c, q := e.Clone(), p.clone()
			s := what % 2 * 16
			switch what / 2 {
			case 0:
				want(t, "Pin", c.Pin(s), q.pin(s))
			case 1:
				want(t, "Unpin", c.Unpin(s), q.unpin(s))
			default:
				if s == 0 {
					q.retire(thing(left))
					want(t, "Retire", c.Retire(thing(left)), api.OK)
					break
				}
				got, f := c.Advance()
				wanted, wf := q.advance(t)
				if f != wf || !slices.Equal(got, wanted) {
					t.Fatalf("Advance = %v, %d, want %v, %d", got, f, wanted, wf)
				}
			}
			try(c, q, left-1)
		}
	}
	try(epoch.New(), newPaper(), 6)
}
