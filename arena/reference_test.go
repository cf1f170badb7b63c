package arena_test

import (
	"math/rand/v2"
	"slices"
	"testing"

	"cresset/api"
	"cresset/arena"
)

// gift is that a slot was given once.
type gift struct {
	h     api.Handle
	x     int
	freed bool
}

// paper is the document's words on an arena, written down a second time as a list of all that was ever given, so that what the package does can be held against them.
type paper struct {
	slots int
	past  []gift
	stale int64
}

// find is the place of a good handle's gift, or -1.
func (p *paper) find(h api.Handle) int {
	return slices.IndexFunc(p.past, func(g gift) bool { return g.h == h && !g.freed })
}

func (p *paper) put(x int) (api.Handle, api.Errno) {
	for slot := range p.slots {
		free, gen := true, int64(0)
		for _, g := range p.past {
			if g.h.Slot == slot {
				free = free && g.freed
				gen++
			}
		}
		if free {
			h := api.Handle{Slot: slot, Gen: gen + 1}
			p.past = append(p.past, gift{h: h, x: x})
			return h, api.OK
		}
	}
	return api.Handle{}, api.ErrFull
}

func (p *paper) get(h api.Handle) (int, api.Errno) {
	at := p.find(h)
	if at < 0 {
		p.stale++
		return 0, api.ErrStale
	}
	return p.past[at].x, api.OK
}

func (p *paper) set(h api.Handle, x int) api.Errno {
	at := p.find(h)
	if at < 0 {
		p.stale++
		return api.ErrStale
	}
	p.past[at].x = x
	return api.OK
}

func (p *paper) free(h api.Handle) api.Errno {
	at := p.find(h)
	if at < 0 {
		p.stale++
		return api.ErrStale
	}
	p.past[at].freed = true
	return api.OK
}

// all is the good handles and what they have, one slot behind the other.
func (p *paper) all() []item[int] {
	var list []item[int]
	for slot := range p.slots {
		for _, g := range p.past {
			if g.h.Slot == slot && !g.freed {
				list = append(list, item[int]{g.h, g.x})
			}
		}
	}
	return list
}

func (p *paper) clone() *paper {
	return &paper{slots: p.slots, past: slices.Clone(p.past), stale: p.stale}
}

// compare holds all that can be asked of a against p.
func compare(t *testing.T, a *arena.Arena[int], p *paper) {
	t.Helper()
	list := p.all()
	wantAll(t, a, list...)
	wantCounts(t, a, p.slots, len(list), p.stale)
	for _, it := range list {
		wantHas(t, a, it.h, it.x)
	}
}

// someHandle is at times one that was given, good or not, at times any.
func someHandle(r *rand.Rand, p *paper) api.Handle {
	good := p.all()
	switch what := r.IntN(10); {
	case what < 5 && len(good) > 0:
		return good[r.IntN(len(good))].h
	case what < 8 && len(p.past) > 0:
		return p.past[r.IntN(len(p.past))].h
	}
	return api.Handle{Slot: r.IntN(p.slots+2) - 1, Gen: int64(r.IntN(6)) - 1}
}

// act does one and the same random call to both, and holds the answers against each other.
func act(t *testing.T, r *rand.Rand, a *arena.Arena[int], p *paper, puts int) {
	t.Helper()
	x := 1 + r.IntN(1000)
	what := r.IntN(20)
	if what < puts {
		got, e := a.Put(x)
		wanted, we := p.put(x)
		if got != wanted || e != we {
			t.Fatalf("Put(%d) = %v, %d, want %v, %d", x, got, e, wanted, we)
		}
		return
	}
	h := someHandle(r, p)
	switch what % 4 {
	case 0:
		got, e := a.Get(h)
		wanted, we := p.get(h)
		if got != wanted || e != we {
			t.Fatalf("Get(%v) = %d, %d, want %d, %d", h, got, e, wanted, we)
		}
	case 1:
		want(t, "Set", a.Set(h, x), p.set(h, x))
	default:
		want(t, "Free", a.Free(h), p.free(h))
	}
}

// P4.1 to P4.4: long runs of calls, in each of which a clone goes its own way from some place on.
func TestAgainstThePaper(t *testing.T) {
	for seed := range uint64(80) {
		r := rand.New(rand.NewPCG(seed, 4))
		slots := 1 + int(seed%11)
		a, p := newArena[int](t, slots), &paper{slots: slots}
		compare(t, a, p)
		puts := 5 + int(seed%6) // some runs are mostly full, some mostly empty
		for range 100 {
			act(t, r, a, p, puts)
			compare(t, a, p)
		}
		c, q := a.Clone(), p.clone()
		for range 80 {
			act(t, r, a, p, puts)
			compare(t, a, p)
			compare(t, c, q)
			act(t, r, c, q, 15-puts)
			compare(t, a, p)
			compare(t, c, q)
		}
	}
}
