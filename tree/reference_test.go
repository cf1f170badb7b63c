package tree_test

import (
	"fmt"
	"math/rand/v2"
	"slices"
	"strings"
	"testing"

	"cresset/api"
	"cresset/epoch"
	"cresset/tree"
)

// pair is a tree and a paper that are asked the same.
type pair struct {
	t     *testing.T
	x     *tree.Tree
	e     *epoch.Epoch
	p     *paper
	pages int
	asked int
	quiet bool           // a tree that is being made ready: nothing is held against each other
	met   map[string]int // how often each place was stood at, with where it led
}

func newPair(t *testing.T, nodes, pages int) *pair {
	t.Helper()
	x, e := newTree(t, nodes, pages)
	return &pair{t: t, x: x, e: e, p: newPaper(nodes, pages), pages: pages, met: map[string]int{}}
}

// twin is one operation of both.
type twin struct {
	f *tree.Op
	o *paperOp
}

func (p *pair) begin(o api.TreeOp) twin {
	p.t.Helper()
	return twin{begin(p.t, p.x, o), p.p.op(o)}
}

// step lets both do a step, and holds all that is seen of them against each other.
func (p *pair) step(w twin) bool {
	p.t.Helper()
	was := w.o.at
	over, wanted := w.f.Step(), w.o.step()
	if p.quiet {
		return wanted
	}
	p.met[was+" "+w.o.at]++
	if over != wanted || w.f.Steps() != w.o.steps {
		p.t.Fatalf("step %d of %v (%s, then %q) = %v, want %v; %d steps", w.o.steps, w.o.ask, was, w.o.at, over, wanted, w.f.Steps())
	}
	told, ok := w.f.Told()
	like := api.TreeTold{}
	if wanted {
		like = w.o.told
	}
	if ok != wanted || !equalTold(told, like) {
		p.t.Fatalf("%v told %v, %v, want %v, %v", w.o.ask, told, ok, like, wanted)
	}
	p.compare(was)
	return over
}

func (p *pair) run(o api.TreeOp) api.TreeTold {
	p.t.Helper()
	w := p.begin(o)
	for n := 0; !p.step(w); n++ {
		if n > 1000 {
			p.t.Fatalf("%v does not end", o)
		}
	}
	return w.o.told
}

// compare holds both against each other. Of places that change no page the pages are looked at now and then alone.
func (p *pair) compare(what string) {
	p.t.Helper()
	x, y := p.x, p.p
	p.asked++
	if x.Nodes() != len(y.nodes)-y.free() || x.Pages() != y.live() || x.Missed() != y.missed || x.Kept() != y.kept || x.Stale() != 0 {
		p.t.Fatalf("behind %s: Nodes %d, Pages %d, Missed %d, Kept %d, Stale %d, want %d, %d, %d, %d, 0", what,
			x.Nodes(), x.Pages(), x.Missed(), x.Kept(), x.Stale(), len(y.nodes)-y.free(), y.live(), y.missed, y.kept)
	}
	whole := p.asked%16 == 0 || !slices.Contains([]string{"Pin", "Read", "Tidy", "Post", "Out"}, what)
	for n := range p.pages {
		if !whole {
			break
		}
		got, long, e := x.Page(n)
		if !y.isLive(n) {
			if e != api.ErrNone || long != 0 || !equal(got, api.Page{}) {
				p.t.Fatalf("behind %s: Page(%d) = %v, %d, %d", what, n, got, long, e)
			}
			continue
		}
		if _, wanted, deltas := y.page(n); e != api.OK || long != deltas || !equal(got, wanted) {
			p.t.Fatalf("behind %s: Page(%d) = %v, %d, %d, want %v, %d", what, n, got, long, e, wanted, deltas)
		}
	}
	if got, wanted := limbo(p.e), limbo(y.epoch); !slices.Equal(got, wanted) {
		p.t.Fatalf("behind %s: %v waits, want %v", what, got, wanted)
	}
	for s := range api.Sessions + 1 {
		at, is := p.e.Pinned(s)
		if wanted, pinned := y.epoch.Pinned(s); at != wanted || is != pinned {
			p.t.Fatalf("behind %s: session %d is pinned to %d, want %d", what, s, at, wanted)
		}
	}
}

func (p *pair) compareAll() {
	p.t.Helper()
	if got, wanted := all(p.x), p.p.entries(); !slices.Equal(got, wanted) {
		p.t.Fatalf("All tells %v, want %v", got, wanted)
	}
}

// advance lets both epochs go on, and frees what they answer.
func (p *pair) advance() {
	p.t.Helper()
	list, e := p.e.Advance()
	other, f := p.p.epoch.Advance()
	if e != f || !slices.Equal(list, other) {
		p.t.Fatalf("Advance = %v, %d, want %v, %d", list, e, other, f)
	}
	for _, x := range list {
		want(p.t, "Free", p.x.Free(x), api.OK)
		p.p.release(x)
	}
}

// unpin lets go of a session whose operation is left where it is.
func (p *pair) unpin(s int) {
	p.e.Unpin(s)
	p.p.epoch.Unpin(s)
}

// leave lets an operation come to a place, and leaves it there.
func (p *pair) leave(o api.TreeOp, at string) {
	p.t.Helper()
	w := p.begin(o)
	for w.o.at != at {
		if p.step(w) {
			p.t.Fatalf("%v has finished", o)
		}
	}
	p.unpin(o.Session)
}

func (p *pair) keep(n int) {
	p.t.Helper()
	wanted := api.OK
	switch {
	case n >= 0 && p.p.free() < p.p.kept+n:
		wanted = api.ErrFull
	case n < 0 && -n > p.p.kept:
		wanted = api.ErrArg
	default:
		p.p.kept += n
	}
	if n >= 0 {
		want(p.t, "Keep", p.x.Keep(n), wanted)
	} else {
		want(p.t, "Unkeep", p.x.Unkeep(-n), wanted)
	}
}

// way is how often each operation is asked for, out of the sum of all.
type mix struct{ get, add, kept, remove, leaf, shrink int }

// some is an operation of a session; of a removal the Ref is mostly the one that the key has.
func (m mix) some(r *rand.Rand, p *pair, s int, keys []string) api.TreeOp {
	key := keys[r.IntN(len(keys))]
	slot := 1 + r.IntN(3)
	n := r.IntN(m.get + m.add + m.kept + m.remove + m.leaf + m.shrink)
	for kind, many := range []int{m.get, m.add, m.kept, m.remove, m.leaf, m.shrink} {
		if n -= many; n >= 0 {
			continue
		}
		switch kind {
		case 0:
			return get(s, key)
		case 1:
			return add(s, key, slot)
		case 2:
			return keptAdd(s, key, slot)
		case 3:
			for _, x := range p.p.entries() {
				if x.Key == key && r.IntN(8) > 0 {
					slot = x.Ref.Slot
				}
			}
			return remove(s, key, slot)
		case 4:
			if r.IntN(4) == 0 {
				key = ""
			}
			return leafOf(s, key)
		}
		break
	}
	return shrink(s, key)
}

// someKeys is keys of unlike lengths, with beginnings in common.
func someKeys(n int) []string {
	var list []string
	for i := range n {
		list = append(list, strings.Repeat(string(rune('a'+i%5)), 1+i%3)+string(rune('a'+i/5%26))+fmt.Sprint(i))
	}
	return list
}

// wild lets operations of many sessions go on side by side, each step picked at random.
func wild(p *pair, r *rand.Rand, m mix, sessions, rounds int, keys []string) {
	var alive []twin
	for range rounds {
		switch n := r.IntN(40); {
		case n == 0:
			p.advance()
		case n == 1:
			p.keep(r.IntN(6))
		case n == 2:
			p.keep(-r.IntN(8))
		case len(alive) < sessions && (len(alive) == 0 || n < 12):
			alive = append(alive, p.begin(m.some(r, p, r.IntN(api.Sessions+1), keys)))
		}
		if len(alive) == 0 {
			continue
		}
		at := r.IntN(len(alive))
		for range 1 + r.IntN(3)*r.IntN(4) {
			if p.step(alive[at]) {
				alive = slices.Delete(alive, at, at+1)
				break
			}
		}
		if r.IntN(10) == 0 {
			p.compareAll()
		}
	}
	for _, w := range alive {
		for !p.step(w) {
		}
	}
	p.compareAll()
}

// P13.1 to P13.5: long runs of operations side by side, held against the paper at each step: trees that grow, that are emptied and merged, that are full of nodes, of pages, or of both. Together they stand at each place, and go from it wherever it leads.
func TestAgainstThePaper(t *testing.T) {
	t.Parallel()
	met := map[string]int{}
	for seed := range uint64(180) {
		r := rand.New(rand.NewPCG(seed, 13))
		nodes, pages, sessions := 400, 60, 1+int(seed%7)
		m := mix{get: 2, add: 8, kept: 1, remove: 3, leaf: 1, shrink: 2}
		keys := someKeys(20 + int(seed%5)*30)
		switch seed % 6 {
		case 1:
			nodes = 8 + int(seed%40) // often full
		case 2:
			pages = 1 + int(seed%8)
		case 3:
			m = mix{get: 1, add: 5, kept: 1, remove: 6, leaf: 1, shrink: 6}
		case 4:
			nodes, m = 20+int(seed%60), mix{add: 3, kept: 4, remove: 2, shrink: 2}
		case 5:
			m = mix{add: 10, remove: 1}
			sessions = 12
		}
		p := newPair(t, nodes, pages)
		wild(p, r, m, sessions, 500, keys)
		if seed%6 == 3 { // all go, and the leaves with them
			for _, x := range p.p.entries() {
				p.run(api.TreeOp{Kind: api.OpRemove, Session: 0, Key: x.Key, Ref: x.Ref})
				p.run(shrink(1, x.Key))
				p.advance()
			}
			p.compareAll()
		}
		for way, n := range p.met {
			met[way] += n
		}
	}
	ways := []string{"Pin ", "Pin Read", "Read Read", "Read Swap", "Read Near", "Read Post", "Read Out", "Swap Out", "Swap Read", "Swap Tidy",
		"Tidy Pack", "Tidy Half", "Tidy Post", "Tidy Out", "Pack Tidy", "Pack Out", "Half Link", "Half Out", "Link Tidy", "Link Post", "Link Out",
		"Post Post", "Post Hang", "Post Out", "Hang Tidy", "Hang Post", "Hang Out", "Near Tidy", "Near Out", "Out "}
	for _, way := range ways {
		if met[way] == 0 {
			t.Errorf("no operation went %q", way)
		}
	}
}

// P13.2, P13.4: merges that come while operations are on their way (who has the epoch unpins their sessions for that long, and none of them has a page that is not linked): what they come to then is live no more, or has another range. Nothing is freed, since they may reach it.
func TestMergesOnTheWay(t *testing.T) {
	t.Parallel()
	gone := 0
	for seed := range uint64(60) {
		r := rand.New(rand.NewPCG(seed, 31))
		p := newPair(t, 1500, 40)
		keys := someKeys(45)
		p.quiet = true
		for at, key := range keys {
			p.run(add(0, key, 1+at%3))
		}
		p.quiet = false
		m := mix{get: 2, add: 2, remove: 12, leaf: 1, shrink: 2}
		alive := map[int]twin{}
		for range 900 {
			s := r.IntN(5)
			if w, is := alive[s]; !is {
				alive[s] = p.begin(m.some(r, p, s, keys))
			} else if p.step(w) {
				delete(alive, s)
			}
			if r.IntN(12) == 0 {
				gone += p.mergeOnTheWay(r, alive)
			}
		}
		p.compareAll()
	}
	if gone < 100 {
		t.Errorf("only %d pages went", gone)
	}
}

// mergeOnTheWay is how many pages went: the sessions are pinned again behind it.
func (p *pair) mergeOnTheWay(r *rand.Rand, alive map[int]twin) int {
	p.t.Helper()
	var pinned []int
	for s := range api.Sessions + 1 {
		if _, is := p.e.Pinned(s); is {
			if alive[s].o.at == "Link" {
				return 0
			}
			pinned = append(pinned, s)
		}
	}
	for _, s := range pinned {
		p.unpin(s)
	}
	was := p.x.Pages()
	for n := range p.p.state {
		if !p.p.isLive(n) {
			continue
		}
		if _, q, _ := p.p.page(n); q.Leaf && len(q.List) < api.PageLeast && q.Low != "" && r.IntN(2) == 0 {
			p.run(shrink(9, q.Low))
		}
	}
	for _, s := range pinned {
		p.e.Pin(s)
		p.p.epoch.Pin(s)
	}
	return was - p.x.Pages()
}

// P13.2 to P13.4: all orders of the steps of two operations in which they change places up to four times, from trees whose next addition packs, splits a leaf, or splits the root, and from one that is to be merged.
func TestOrdersOfTwo(t *testing.T) {
	t.Parallel()
	trees := []struct {
		keys, gone int // so many letters are added, the last so many of e to h removed
		a, b       api.TreeOp
	}{
		{6, 0, add(1, "x", 1), add(2, "y", 2)},
		{6, 0, add(1, "x", 1), remove(2, "a", 1)},
		{6, 0, add(1, "x", 1), add(2, "x", 2)},
		{8, 0, add(1, "x", 1), add(2, "y", 2)},
		{8, 0, add(1, "x", 1), leafOf(2, "")},
		{8, 0, keptAdd(1, "x", 1), remove(2, "h", 8)},
		{12, 0, add(1, "x", 1), get(2, "x")},
		{12, 0, add(1, "x", 1), add(2, "y", 2)},
		{12, 0, add(1, "x", 1), leafOf(2, "l")},
		{13, 3, shrink(1, "e"), get(2, "e")},
		{13, 3, shrink(1, "e"), add(2, "f", 1)},
		{13, 3, shrink(1, "e"), remove(2, "e", 5)},
		{13, 3, shrink(1, "e"), shrink(2, "e")},
		{13, 3, shrink(1, "e"), add(2, "aa", 1)},
	}
	for _, x := range trees {
		setUp := func() *pair {
			p := newPair(t, 60, 6)
			p.quiet = true
			for at, key := range letters(x.keys) {
				p.run(add(0, key, at+1))
			}
			for at := 8 - x.gone; at < 8; at++ {
				p.run(remove(0, letters(8)[at], at+1))
			}
			p.quiet = false
			p.advance()
			p.advance()
			return p
		}
		orders(setUp, x.a, x.b)
		orders(setUp, x.b, x.a)
	}
}

// orders lets a do some steps, then b some, then a some, then b all of its steps, and a all of its. It ends where more steps are none.
func orders(setUp func() *pair, a, b api.TreeOp) {
	try := func(first, second, third int) (over, bOver, aOver bool) {
		p := setUp()
		x, y := p.begin(a), p.begin(b)
		over = p.some(x, first)
		bOver = p.some(y, second)
		aOver = p.some(x, third)
		p.some(y, -1)
		p.some(x, -1)
		p.compareAll()
		return over, bOver, aOver
	}
	for first := 0; ; first++ {
		over := false
		for second := 0; ; second++ {
			bOver := false
			for third, aOver := 0, false; !aOver; third++ {
				over, bOver, aOver = try(first, second, third)
			}
			if bOver {
				break
			}
		}
		if over {
			return
		}
	}
}

// some lets an operation do so many steps (below 0: all): whether it has finished.
func (p *pair) some(w twin, n int) bool {
	p.t.Helper()
	for ; n != 0 && !w.o.finished(); n-- {
		p.step(w)
	}
	return w.o.finished()
}
