package heap_test

import (
	"cmp"
	"maps"
	"math/rand/v2"
	"slices"
	"strings"
	"testing"

	"cresset/api"
)

// paperSlots is the slots of an arena: how often each one was given, and which ones are.
type paperSlots struct {
	times []int64
	given []bool
}

func newSlots(size int) *paperSlots { return &paperSlots{make([]int64, size), make([]bool, size)} }

func (s *paperSlots) live() int {
	n := 0
	for _, is := range s.given {
		if is {
			n++
		}
	}
	return n
}

func (s *paperSlots) take() api.Handle {
	slot := slices.Index(s.given, false) // -1 would mean that what was reserved is not there
	s.given[slot] = true
	s.times[slot]++
	return handle(slot, s.times[slot])
}

func (s *paperSlots) free(at api.Handle) bool {
	if at.Slot < 0 || at.Slot >= len(s.given) || !s.given[at.Slot] || s.times[at.Slot] != at.Gen {
		return false
	}
	s.given[at.Slot] = false
	return true
}

// paperVersion is a version, and where it is.
type paperVersion struct {
	api.Version
	at api.Handle
}

type paperCell struct {
	at      api.Handle
	key     string
	list    []paperVersion // the newest one first
	closed  bool
	retired bool
}

func (c *paperCell) versions() []api.Version {
	var l []api.Version
	for _, v := range c.list {
		l = append(l, v.Version)
	}
	return l
}

// paper is the document's words on a heap, written down a second time: of each cell all its versions in a list, of each session what it has reserved. The room, and what may be found, is worked out anew each time.
type paper struct {
	cells, versions *paperSlots
	there           []*paperCell
	shares          map[int][2]int
	stale           int64
	older, newer    []api.Retired // what was retired in the epoch ahead, and in this one
}

func newPaper(cells, versions int) *paper {
	return &paper{cells: newSlots(cells), versions: newSlots(versions), shares: map[int][2]int{}}
}

// find is a good cell, or none: that counts as stale.
func (p *paper) find(at api.Handle) *paperCell {
	for _, c := range p.there {
		if c.at == at {
			return c
		}
	}
	p.stale++
	return nil
}

func (p *paper) room() (int, int) {
	cells, versions := len(p.cells.given)-p.cells.live(), len(p.versions.given)-p.versions.live()
	for _, n := range p.shares {
		cells, versions = cells-n[0], versions-n[1]
	}
	return cells, versions
}

// use is the error of a session that is none, or has not reserved.
func (p *paper) use(s int) api.Errno {
	if s < 0 || s > 16 {
		return api.ErrArg
	}
	if _, ok := p.shares[s]; !ok {
		return api.ErrReserve
	}
	return api.OK
}

func (p *paper) reserve(s, cells, versions int) api.Errno {
	if s < 0 || s > 16 || cells < 0 || versions < 0 {
		return api.ErrArg
	}
	if _, ok := p.shares[s]; ok {
		return api.ErrReserve
	}
	if c, v := p.room(); c < cells || v < versions {
		return api.ErrFull
	}
	p.shares[s] = [2]int{cells, versions}
	return api.OK
}

func (p *paper) release(s int) api.Errno {
	if e := p.use(s); e != api.OK {
		return e
	}
	delete(p.shares, s)
	return api.OK
}

// change changes what a session has reserved.
func (p *paper) change(s, cells, versions int) {
	n := p.shares[s]
	p.shares[s] = [2]int{n[0] + cells, n[1] + versions}
}

func (p *paper) cell(s int, key string) (api.Handle, api.Errno) {
	if e := p.use(s); e != api.OK {
		return api.Handle{}, e
	}
	if len(key) < 1 || len(key) > 64 {
		return api.Handle{}, 30
	}
	if p.shares[s][0] < 1 {
		return api.Handle{}, api.ErrFull
	}
	p.change(s, -1, 0)
	c := &paperCell{at: p.cells.take(), key: key}
	p.there = append(p.there, c)
	return c.at, api.OK
}

func (p *paper) drop(s int, at api.Handle) api.Errno {
	if e := p.use(s); e != api.OK {
		return e
	}
	c := p.find(at)
	if c == nil {
		return api.ErrStale
	}
	if len(c.list) > 0 {
		return api.ErrKept
	}
	p.change(s, +1, 0)
	p.away(at)
	return api.OK
}

// away takes a cell away.
func (p *paper) away(at api.Handle) {
	p.cells.free(at)
	p.there = slices.DeleteFunc(p.there, func(c *paperCell) bool { return c.at == at })
}

func (p *paper) install(s int, at api.Handle, v api.Version) api.Errno {
	if e := p.use(s); e != api.OK {
		return e
	}
	c := p.find(at)
	if c == nil {
		return api.ErrStale
	}
	if c.closed {
		return 160
	}
	if v.TS < 1 || v.TS > maxTS || len(v.Value) > 256 || v.Del && v.Value != "" {
		return 151
	}
	if len(c.list) > 0 && v.TS <= c.list[0].TS {
		return 150
	}
	if p.shares[s][1] < 1 {
		return api.ErrFull
	}
	p.change(s, 0, -1)
	c.list = append([]paperVersion{{v, p.versions.take()}}, c.list...)
	return api.OK
}

// read goes from the oldest version on: the last one that is not above the timestamp.
func (p *paper) read(at api.Handle, ts int64) (v api.Version, ok bool, e api.Errno) {
	c := p.find(at)
	if c == nil {
		return v, false, api.ErrStale
	}
	for _, x := range slices.Backward(c.list) {
		if x.TS <= ts {
			v, ok = x.Version, true
		}
	}
	return v, ok, api.OK
}

func (p *paper) prune(at api.Handle, mark int64) (int, bool, api.Errno) {
	c := p.find(at)
	if c == nil {
		return 0, false, api.ErrStale
	}
	if c.closed || len(c.list) == 0 {
		return 0, c.closed, api.OK
	}
	var kept, rest []paperVersion
	for i, v := range c.list {
		first := v.TS <= mark && (i == 0 || c.list[i-1].TS > mark)
		if v.TS > mark || first && !v.Del {
			kept = append(kept, v)
		} else {
			rest = append(rest, v)
		}
	}
	if len(kept) == 0 {
		c.closed = true
		return 0, true, api.OK
	}
	c.list = kept
	p.wait(rest)
	return len(rest), false, api.OK
}

func (p *paper) wait(l []paperVersion) {
	for _, v := range l {
		p.newer = append(p.newer, aVersion(v.at))
	}
}

func (p *paper) reopen(at api.Handle) api.Errno {
	c := p.find(at)
	if c == nil {
		return api.ErrStale
	}
	if !c.closed || c.retired {
		return api.ErrKept
	}
	c.closed = false
	return api.OK
}

func (p *paper) retire(at api.Handle) api.Errno {
	c := p.find(at)
	if c == nil {
		return api.ErrStale
	}
	if !c.closed || c.retired {
		return api.ErrKept
	}
	p.wait(c.list)
	p.newer = append(p.newer, aCell(at))
	c.list, c.retired = nil, true
	return api.OK
}

func (p *paper) free(x api.Retired) api.Errno {
	switch x.Kind {
	case 3:
		if !p.versions.free(x.Handle) {
			p.stale++
			return api.ErrStale
		}
		return api.OK
	case 4:
		if p.find(x.Handle) == nil {
			return api.ErrStale
		}
		p.away(x.Handle)
		return api.OK
	}
	return api.ErrArg
}

func (p *paper) advance() []api.Retired {
	l := p.older
	p.older, p.newer = p.newer, nil
	return l
}

func (p *paper) all() []item {
	var l []item
	for _, c := range p.there {
		l = append(l, item{c.at, c.key})
	}
	slices.SortFunc(l, func(x, y item) int { return cmp.Compare(x.at.Slot, y.at.Slot) })
	return l
}

// pair is a heap and what the document says of it, that are asked the same.
type pair struct {
	bench
	p  *paper
	ts int64 // the timestamp that was used last
}

func newPair(t *testing.T, cells, versions int) *pair {
	return &pair{begin(t, cells, versions), newPaper(cells, versions), 0}
}

// compare holds all that can be asked of both against each other.
func (x *pair) compare() {
	x.t.Helper()
	x.wantCounts(x.p.cells.live(), x.p.versions.live(), x.p.stale)
	x.wantRoom(x.p.room())
	for s := -1; s <= 17; s++ {
		if n, ok := x.p.shares[s]; ok {
			x.wantReserved(s, n[0], n[1])
		} else {
			x.wantNoneReserved(s)
		}
	}
	x.wantAll(x.p.all()...)
	x.wantLimbo(slices.Concat(x.p.older, x.p.newer)...)
	for _, c := range x.p.there {
		x.wantKey(c.at, c.key)
		x.wantList(c.at, c.closed, c.versions()...)
	}
}

func (x *pair) reserve(s, cells, versions int) {
	x.t.Helper()
	x.want("Reserve", x.h.Reserve(s, cells, versions), x.p.reserve(s, cells, versions))
}

func (x *pair) release(s int) {
	x.t.Helper()
	x.want("Release", x.h.Release(s), x.p.release(s))
}

func (x *pair) cell(s int, key string) api.Handle {
	x.t.Helper()
	at, e := x.h.Cell(s, key)
	if wanted, we := x.p.cell(s, key); at != wanted || e != we {
		x.t.Fatalf("Cell(%d, %q) = %v, %d, want %v, %d", s, key, at, e, wanted, we)
	}
	return at
}

func (x *pair) drop(s int, at api.Handle) {
	x.t.Helper()
	x.want("Drop", x.h.Drop(s, at), x.p.drop(s, at))
}

func (x *pair) install(s int, at api.Handle, v api.Version) {
	x.t.Helper()
	x.want("Install", x.h.Install(s, at, v), x.p.install(s, at, v))
}

func (x *pair) read(at api.Handle, ts int64) {
	x.t.Helper()
	v, ok, e := x.h.Read(at, ts)
	if wanted, is, we := x.p.read(at, ts); v != wanted || ok != is || e != we {
		x.t.Fatalf("Read(%v, %d) = %v, %v, %d, want %v, %v, %d", at, ts, v, ok, e, wanted, is, we)
	}
}

func (x *pair) prune(at api.Handle, mark int64) {
	x.t.Helper()
	n, c, e := x.h.Prune(at, mark)
	if many, closed, we := x.p.prune(at, mark); n != many || c != closed || e != we {
		x.t.Fatalf("Prune(%v, %d) = %d, %v, %d, want %d, %v, %d", at, mark, n, c, e, many, closed, we)
	}
}

func (x *pair) reopen(at api.Handle) {
	x.t.Helper()
	x.want("Reopen", x.h.Reopen(at), x.p.reopen(at))
}

func (x *pair) retire(at api.Handle) {
	x.t.Helper()
	x.want("Retire", x.h.Retire(at), x.p.retire(at))
}

func (x *pair) free(r api.Retired) {
	x.t.Helper()
	x.want("Free", x.h.Free(r), x.p.free(r))
}

// advance frees what an Advance answers.
func (x *pair) advance() {
	x.t.Helper()
	l, e := x.e.Advance()
	if wanted := x.p.advance(); e != api.OK || !slices.Equal(l, wanted) {
		x.t.Fatalf("Advance = %v, %d, want %v", l, e, wanted)
	}
	for _, r := range l {
		x.free(r)
	}
}

// next is a timestamp above all that were used.
func (x *pair) next() int64 {
	x.ts++
	return x.ts
}

// player picks what is done: mostly what may be, and now and then what may not.
type player struct {
	*pair
	*rand.Rand
	sessions int
	seen     []api.Handle // all cells that there ever were
	wild     bool         // cells are freed that were not retired
}

func (x *player) session() int {
	has := slices.Sorted(maps.Keys(x.p.shares))
	switch n := x.IntN(12); {
	case n == 0:
		return x.IntN(20) - 2
	case n < 4 || len(has) == 0:
		return 16 - x.IntN(x.sessions)
	}
	return has[x.IntN(len(has))]
}

func (x *player) key() string {
	if x.IntN(10) == 0 {
		return strings.Repeat("k", []int{0, 1, 64, 65}[x.IntN(4)])
	}
	return []string{"a", "b", "c", "\xff"}[x.IntN(4)]
}

func (x *player) at() api.Handle {
	switch n := x.IntN(12); {
	case n == 0:
		return handle(x.IntN(8)-1, x.Int64N(5)-1)
	case n == 1 && len(x.seen) > 0:
		return x.seen[x.IntN(len(x.seen))]
	case len(x.p.there) > 0:
		return x.p.there[x.IntN(len(x.p.there))].at
	}
	return api.Handle{}
}

func (x *player) version() api.Version {
	v := api.Version{TS: x.next(), Del: x.IntN(3) == 0}
	if !v.Del || x.IntN(20) == 0 {
		v.Value = []string{"", "x", "y"}[x.IntN(3)]
	}
	if x.IntN(30) == 0 {
		v.Value = strings.Repeat("v", 256+x.IntN(2))
	}
	if x.IntN(8) == 0 {
		v.TS = x.Int64N(x.ts+2) - 1
	}
	if x.IntN(100) == 0 {
		v.TS = maxTS + 1
	}
	return v
}

func (x *player) mark() int64 { return x.ts + 1 - x.Int64N(8) }

// act does one and the same random call to both.
func (x *player) act() {
	x.t.Helper()
	switch n := x.IntN(60); {
	case n < 8:
		x.reserve(x.IntN(20)-1-x.IntN(2), x.IntN(4)-x.IntN(2), x.IntN(6)-x.IntN(2))
	case n < 11:
		x.release(x.session())
	case n < 20:
		if at := x.cell(x.session(), x.key()); at != (api.Handle{}) {
			x.seen = append(x.seen, at)
		}
	case n < 23:
		x.drop(x.session(), x.at())
	case n < 35:
		x.install(x.session(), x.at(), x.version())
	case n < 40:
		x.read(x.at(), x.mark())
	case n < 47:
		x.prune(x.at(), x.mark())
	case n < 49:
		x.reopen(x.at())
	case n < 53:
		x.retire(x.at())
	case n < 58:
		x.advance()
	default:
		x.strayFree()
	}
}

// strayFree frees what the epoch has not answered: a version that is not given (one in use would spoil its chain), or a cell.
func (x *player) strayFree() {
	x.t.Helper()
	r := api.Retired{Kind: x.IntN(7) - 1, Handle: x.at()}
	switch r.Kind {
	case 3:
		r.Handle = handle(x.IntN(14)-1, x.Int64N(3)-1)
		if at := r.Handle.Slot; at >= 0 && at < len(x.p.versions.given) && x.p.versions.given[at] {
			r.Handle.Gen = x.p.versions.times[at] + 1 - 2*x.Int64N(2)
		}
	case 4:
		if !x.wild && slices.ContainsFunc(x.p.there, func(c *paperCell) bool { return c.at == r.Handle }) {
			r.Handle.Gen++
		}
	}
	x.free(r)
}

// P16.1 to P16.4: long runs of calls, each of which is held against the document's words, with all that can be asked behind it.
func TestAgainstThePaper(t *testing.T) {
	for seed := range uint64(400) {
		r := rand.New(rand.NewPCG(seed, 16))
		x := &player{pair: newPair(t, 1+r.IntN(6), 1+r.IntN(12)), Rand: r, sessions: 1 + int(seed%17), wild: seed%8 == 7}
		x.compare()
		for range 300 {
			x.act()
			x.compare()
		}
	}
}

// P16.1 to P16.4: all short runs of calls, from some beginnings on. A heap has no Clone: each run is done from the beginning.
func TestAllShortRuns(t *testing.T) {
	a := handle(0, 1)
	acts := []func(x *pair){
		func(x *pair) { x.reserve(0, 1, 1) },
		func(x *pair) { x.release(0) },
		func(x *pair) { x.cell(0, "b") },
		func(x *pair) { x.drop(0, a) },
		func(x *pair) { x.drop(16, a) },
		func(x *pair) { x.install(0, a, has(x.next(), "x")) },
		func(x *pair) { x.install(0, a, gone(x.next())) },
		func(x *pair) { x.install(16, a, has(x.next(), "y")) },
		func(x *pair) { x.prune(a, x.ts) },
		func(x *pair) { x.prune(a, x.ts-1) },
		func(x *pair) { x.reopen(a) },
		func(x *pair) { x.retire(a) },
		func(x *pair) { x.advance() },
		func(x *pair) { x.free(aCell(a)) },
	}
	for _, ahead := range [][]int{
		{2}, // reserved, a cell
		{2, 5, 5},
		{2, 5, 6},
		{2, 5, 6, 8},     // closed
		{2, 5, 6, 8, 11}, // retired
		{2, 5, 5, 8, 12, 6},
	} {
		x := newPair(t, 2, 5)
		begun := func() *pair {
			x = newPair(t, 2, 5)
			x.reserve(0, 1, 3)
			x.reserve(16, 1, 1)
			for _, n := range ahead {
				acts[n](x)
			}
			return x
		}
		begun().compare()
		for run := range len(acts) * len(acts) * len(acts) * len(acts) {
			begun()
			for range 4 {
				acts[run%len(acts)](x)
				run /= len(acts)
			}
			x.compare()
		}
	}
}
