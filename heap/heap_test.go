package heap_test

import (
	"math"
	"slices"
	"strings"
	"testing"

	"cresset/api"
	"cresset/epoch"
	"cresset/heap"
)

const (
	maxTS = 1 << 40
	own   = 16 // the store's own session
)

var wrongSessions = []int{-1, 17, 18, math.MinInt, math.MaxInt}

func has(ts int64, value string) api.Version { return api.Version{TS: ts, Value: value} }

func gone(ts int64) api.Version { return api.Version{TS: ts, Del: true} }

func handle(slot int, gen int64) api.Handle { return api.Handle{Slot: slot, Gen: gen} }

func aVersion(at api.Handle) api.Retired { return api.Retired{Kind: 3, Handle: at} }

func aCell(at api.Handle) api.Retired { return api.Retired{Kind: 4, Handle: at} }

// bench is a heap with its epoch.
type bench struct {
	t *testing.T
	h *heap.Heap
	e *epoch.Epoch
}

func begin(t *testing.T, cells, versions int) bench {
	t.Helper()
	e := epoch.New()
	h, err := heap.New(cells, versions, e)
	if h == nil || err != api.OK {
		t.Fatalf("New(%d, %d) = %v, %d", cells, versions, h, err)
	}
	return bench{t, h, e}
}

// want says which call answered otherwise than it should.
func (b bench) want(what string, got, wanted api.Errno) {
	b.t.Helper()
	if got != wanted {
		b.t.Fatalf("%s answered %d, want %d", what, got, wanted)
	}
}

func (b bench) reserve(s, cells, versions int) {
	b.t.Helper()
	b.want("Reserve", b.h.Reserve(s, cells, versions), api.OK)
	b.wantReserved(s, cells, versions)
}

func (b bench) release(s int) {
	b.t.Helper()
	b.want("Release", b.h.Release(s), api.OK)
	b.wantNoneReserved(s)
}

func (b bench) cell(s int, key string) api.Handle {
	b.t.Helper()
	at, e := b.h.Cell(s, key)
	if e != api.OK {
		b.t.Fatalf("Cell(%d, %q) answered %d", s, key, e)
	}
	return at
}

func (b bench) install(s int, at api.Handle, l ...api.Version) {
	b.t.Helper()
	for _, v := range l {
		if e := b.h.Install(s, at, v); e != api.OK {
			b.t.Fatalf("Install(%d, %v, %v) answered %d", s, at, v, e)
		}
	}
}

// filled is a new cell with versions, the oldest one first; for it the store's own session reserves just what it takes.
func (b bench) filled(key string, l ...api.Version) api.Handle {
	b.t.Helper()
	b.reserve(own, 1, len(l))
	at := b.cell(own, key)
	b.install(own, at, l...)
	b.release(own)
	return at
}

// closed is a cell that Prune has closed: its one version is a key that is gone.
func (b bench) closed(key string, ts int64) api.Handle {
	b.t.Helper()
	at := b.filled(key, gone(ts))
	b.wantPrune(at, ts, 0, true)
	return at
}

func (b bench) wantReserved(s, cells, versions int) {
	b.t.Helper()
	if c, v, ok := b.h.Reserved(s); c != cells || v != versions || !ok {
		b.t.Fatalf("Reserved(%d) = %d, %d, %v, want %d, %d", s, c, v, ok, cells, versions)
	}
}

func (b bench) wantNoneReserved(s int) {
	b.t.Helper()
	if c, v, ok := b.h.Reserved(s); c != 0 || v != 0 || ok {
		b.t.Fatalf("Reserved(%d) = %d, %d, %v, want none", s, c, v, ok)
	}
}

func (b bench) wantRoom(cells, versions int) {
	b.t.Helper()
	if c, v := b.h.Room(); c != cells || v != versions {
		b.t.Fatalf("Room = %d, %d, want %d, %d", c, v, cells, versions)
	}
}

func (b bench) wantCounts(cells, versions int, stale int64) {
	b.t.Helper()
	if b.h.Cells() != cells || b.h.Versions() != versions || b.h.Stale() != stale {
		b.t.Fatalf("Cells %d, Versions %d, Stale %d, want %d, %d, %d", b.h.Cells(), b.h.Versions(), b.h.Stale(), cells, versions, stale)
	}
}

func (b bench) wantNoCell(s int, key string, wanted api.Errno) {
	b.t.Helper()
	if at, e := b.h.Cell(s, key); at != (api.Handle{}) || e != wanted {
		b.t.Fatalf("Cell(%d, %q) = %v, %d, want %d", s, key, at, e, wanted)
	}
}

func (b bench) wantKey(at api.Handle, wanted string) {
	b.t.Helper()
	if key, e := b.h.Key(at); key != wanted || e != api.OK {
		b.t.Fatalf("Key(%v) = %q, %d, want %q", at, key, e, wanted)
	}
}

func (b bench) wantRead(at api.Handle, ts int64, wanted api.Version) {
	b.t.Helper()
	if v, ok, e := b.h.Read(at, ts); v != wanted || !ok || e != api.OK {
		b.t.Fatalf("Read(%v, %d) = %v, %v, %d, want %v", at, ts, v, ok, e, wanted)
	}
}

func (b bench) wantNoRead(at api.Handle, ts int64) {
	b.t.Helper()
	if v, ok, e := b.h.Read(at, ts); v != (api.Version{}) || ok || e != api.OK {
		b.t.Fatalf("Read(%v, %d) = %v, %v, %d, want none", at, ts, v, ok, e)
	}
}

func (b bench) wantList(at api.Handle, closed bool, wanted ...api.Version) {
	b.t.Helper()
	if l, c, e := b.h.List(at); !slices.Equal(l, wanted) || c != closed || e != api.OK {
		b.t.Fatalf("List(%v) = %v, %v, %d, want %v, %v", at, l, c, e, wanted, closed)
	}
}

func (b bench) wantPrune(at api.Handle, mark int64, many int, closed bool) {
	b.t.Helper()
	if n, c, e := b.h.Prune(at, mark); n != many || c != closed || e != api.OK {
		b.t.Fatalf("Prune(%v, %d) = %d, %v, %d, want %d, %v", at, mark, n, c, e, many, closed)
	}
}

// wantStale asks all calls of a cell's handle that is not good: each one answers so, and counts it once.
func (b bench) wantStale(at api.Handle) {
	b.t.Helper()
	was := b.h.Stale()
	if key, e := b.h.Key(at); key != "" || e != api.ErrStale {
		b.t.Fatalf("Key(%v) = %q, %d, want ErrStale", at, key, e)
	}
	if v, ok, e := b.h.Read(at, maxTS); v != (api.Version{}) || ok || e != api.ErrStale {
		b.t.Fatalf("Read(%v) = %v, %v, %d, want ErrStale", at, v, ok, e)
	}
	if l, c, e := b.h.List(at); l != nil || c || e != api.ErrStale {
		b.t.Fatalf("List(%v) = %v, %v, %d, want ErrStale", at, l, c, e)
	}
	if n, c, e := b.h.Prune(at, maxTS); n != 0 || c || e != api.ErrStale {
		b.t.Fatalf("Prune(%v) = %d, %v, %d, want ErrStale", at, n, c, e)
	}
	b.want("Reopen", b.h.Reopen(at), api.ErrStale)
	b.want("Retire", b.h.Retire(at), api.ErrStale)
	b.want("Free", b.h.Free(aCell(at)), api.ErrStale)
	if got := b.h.Stale(); got != was+7 {
		b.t.Fatalf("Stale is %d behind seven stale handles, was %d", got, was)
	}
}

func limbo(e *epoch.Epoch) []api.Retired {
	var l []api.Retired
	for _, x := range e.Limbo() {
		l = append(l, x)
	}
	return l
}

func (b bench) wantLimbo(wanted ...api.Retired) {
	b.t.Helper()
	if got := limbo(b.e); !slices.Equal(got, wanted) {
		b.t.Fatalf("there waits %v, want %v", got, wanted)
	}
}

// settle advances twice, and frees what that answers.
func (b bench) settle() {
	b.t.Helper()
	for range 2 {
		l, e := b.e.Advance()
		b.want("Advance", e, api.OK)
		for _, x := range l {
			b.want("Free", b.h.Free(x), api.OK)
		}
	}
	b.wantLimbo()
}

// item is what All tells of one cell.
type item struct {
	at  api.Handle
	key string
}

func all(h *heap.Heap) []item {
	var l []item
	for at, key := range h.All() {
		l = append(l, item{at, key})
	}
	return l
}

func (b bench) wantAll(wanted ...item) {
	b.t.Helper()
	if got := all(b.h); !slices.Equal(got, wanted) {
		b.t.Fatalf("All tells %v, want %v", got, wanted)
	}
}

// The chapter's example 1.
func TestExample(t *testing.T) {
	b := begin(t, 2, 4)
	b.reserve(0, 1, 2)
	a := b.cell(0, "a")
	if a != handle(0, 1) {
		t.Errorf("Cell = %v", a)
	}
	b.install(0, a, has(5, "x"), gone(7))
	b.wantRead(a, 6, has(5, "x"))
	b.wantPrune(a, 6, 0, false)
	b.wantPrune(a, 7, 0, true)
	b.want("Retire", b.h.Retire(a), api.OK)
	first, _ := b.e.Advance()
	second, _ := b.e.Advance()
	if l := slices.Concat(first, second); !slices.Equal(l, []api.Retired{aVersion(handle(1, 1)), aVersion(handle(0, 1)), aCell(a)}) {
		t.Errorf("two Advances answer %v, %v", first, second)
	}
	b.wantCounts(1, 2, 0)
	for _, x := range second {
		b.want("Free", b.h.Free(x), api.OK)
	}
	b.wantCounts(0, 0, 0)
}

// P16.1, New: which errors it answers, and in which order; a heap that has nothing.
func TestNew(t *testing.T) {
	e := epoch.New()
	for _, c := range []struct {
		cells, versions int
		e               *epoch.Epoch
		wanted          api.Errno
	}{
		{1, 1, e, api.OK},
		{65536, 65536, e, api.OK},
		{1, 65536, e, api.OK},
		{65536, 1, e, api.OK},
		{0, 1, e, api.ErrArg},
		{1, 0, e, api.ErrArg},
		{-1, 1, e, api.ErrArg},
		{1, -1, e, api.ErrArg},
		{65537, 1, e, api.ErrArg},
		{1, 65537, e, api.ErrArg},
		{math.MinInt, math.MaxInt, e, api.ErrArg},
		{math.MaxInt, math.MinInt, e, api.ErrArg},
		{1, 1, nil, api.ErrMade},
		{1, 1, &epoch.Epoch{}, api.ErrMade},
		{0, 1, nil, api.ErrMade},
		{1, 0, &epoch.Epoch{}, api.ErrMade},
	} {
		h, err := heap.New(c.cells, c.versions, c.e)
		if err != c.wanted || (h != nil) != (c.wanted == api.OK) {
			t.Errorf("New(%d, %d) = %v, %d, want %d", c.cells, c.versions, h, err, c.wanted)
		}
		if err != api.OK {
			continue
		}
		b := bench{t, h, c.e}
		b.wantRoom(c.cells, c.versions)
		b.wantCounts(0, 0, 0)
		b.wantAll()
		for s := -1; s <= 17; s++ {
			b.wantNoneReserved(s)
		}
	}
	if e.Now() != 1 || e.Waiting() != 0 {
		t.Errorf("New did something to the epoch: %d, %d", e.Now(), e.Waiting())
	}
}

// P16.1: each session reserves once, 0 too, and what is left of it is told.
func TestReserve(t *testing.T) {
	b := begin(t, 200, 300)
	cells, versions := 200, 300
	for s := range 17 {
		b.wantNoneReserved(s)
		b.want("Release", b.h.Release(s), api.ErrReserve)
		b.reserve(s, s, 17-s)
		cells, versions = cells-s, versions-(17-s)
		b.wantRoom(cells, versions)
		for _, n := range []int{0, 1, 1000} {
			b.want("Reserve again", b.h.Reserve(s, n, n), api.ErrReserve)
		}
		b.wantReserved(s, s, 17-s)
		b.wantRoom(cells, versions)
	}
	for s := range 17 {
		b.wantReserved(s, s, 17-s)
		b.release(s)
		cells, versions = cells+s, versions+(17-s)
		b.wantRoom(cells, versions)
		b.want("Release again", b.h.Release(s), api.ErrReserve)
	}
	b.wantRoom(200, 300)
	b.wantCounts(0, 0, 0)
	b.reserve(3, 0, 0)
	b.want("Reserve again", b.h.Reserve(3, 0, 0), api.ErrReserve)
	b.release(3)
	b.reserve(3, 200, 300)
}

// P16.1: arguments that may not be, ahead of all other errors.
func TestReserveRefusesArguments(t *testing.T) {
	b := begin(t, 4, 4)
	b.reserve(1, 1, 1)
	for _, s := range wrongSessions {
		b.want("Reserve", b.h.Reserve(s, 0, 0), api.ErrArg)
		b.want("Reserve", b.h.Reserve(s, 9, 9), api.ErrArg)
		b.want("Release", b.h.Release(s), api.ErrArg)
		b.wantNoneReserved(s)
	}
	for _, n := range []int{-1, -2, math.MinInt} {
		for _, s := range []int{0, 1, own, 17} {
			b.want("Reserve", b.h.Reserve(s, n, 0), api.ErrArg)
			b.want("Reserve", b.h.Reserve(s, 0, n), api.ErrArg)
			b.want("Reserve", b.h.Reserve(s, n, n), api.ErrArg)
			b.want("Reserve", b.h.Reserve(s, math.MaxInt, n), api.ErrArg)
			b.want("Reserve", b.h.Reserve(s, n, math.MaxInt), api.ErrArg)
		}
	}
	b.want("Reserve", b.h.Reserve(1, 9, 9), api.ErrReserve)
	b.wantReserved(1, 1, 1)
	b.wantNoneReserved(0)
	b.wantNoneReserved(own)
	b.wantRoom(3, 3)
}

// P16.1, Words: the room is what is neither given nor reserved by any session; just so much may be reserved.
func TestReserveByTheRoom(t *testing.T) {
	b := begin(t, 10, 20)
	a := b.filled("a", has(1, "x"), has(2, "y")) // 1 and 2 given
	b.reserve(0, 3, 5)
	b.reserve(own, 2, 6)
	b.wantRoom(4, 7)
	for _, n := range [][2]int{{5, 0}, {0, 8}, {5, 8}, {4, 8}, {5, 7}, {math.MaxInt, 0}, {0, math.MaxInt}, {65536, 65536}} {
		b.want("Reserve", b.h.Reserve(1, n[0], n[1]), api.ErrFull)
		b.wantNoneReserved(1)
		b.wantRoom(4, 7)
	}
	b.reserve(1, 4, 7)
	b.wantRoom(0, 0)
	b.want("Reserve", b.h.Reserve(2, 1, 0), api.ErrFull)
	b.want("Reserve", b.h.Reserve(2, 0, 1), api.ErrFull)
	b.reserve(2, 0, 0)
	// What is used of it is given, and leaves the room as it is.
	c := b.cell(0, "c")
	b.install(0, c, has(1, "x"))
	b.install(0, a, has(3, "z"))
	b.wantReserved(0, 2, 3)
	b.wantRoom(0, 0)
	b.wantCounts(2, 4, 0)
	b.want("Reserve", b.h.Reserve(3, 1, 0), api.ErrFull)
	// What is released, retired and freed makes room, what is dropped does not.
	b.want("Drop", b.h.Drop(2, b.cell(1, "d")), api.OK)
	b.wantReserved(1, 3, 7)
	b.wantReserved(2, 1, 0)
	b.wantRoom(0, 0)
	b.release(0)
	b.wantRoom(2, 3)
	b.wantPrune(a, 3, 2, false)
	b.wantRoom(2, 3)
	b.settle()
	b.wantRoom(2, 5)
}

// P16.2, Cell: a slot with the key, no version, not closed; the lowest free slot, as chapter 4 has it.
func TestCell(t *testing.T) {
	b := begin(t, 4, 4)
	b.reserve(0, 3, 0)
	b.reserve(1, 1, 0)
	for slot, c := range []struct {
		s   int
		key string
	}{{0, "b"}, {1, "b"}, {0, "\x00"}, {0, strings.Repeat("\xff", 64)}} {
		at := b.cell(c.s, c.key)
		if at != handle(slot, 1) {
			t.Fatalf("the cell %d is %v", slot, at)
		}
		b.wantKey(at, c.key)
		b.wantList(at, false)
		b.wantNoRead(at, maxTS)
		b.wantCounts(slot+1, 0, 0)
		b.wantRoom(0, 4)
	}
	b.wantReserved(0, 0, 0)
	b.wantReserved(1, 0, 0)
	b.want("Drop", b.h.Drop(1, handle(2, 1)), api.OK)
	b.want("Drop", b.h.Drop(0, handle(1, 1)), api.OK)
	b.wantReserved(0, 1, 0)
	if at := b.cell(0, "n"); at != handle(1, 2) {
		t.Errorf("a slot given anew: %v", at)
	}
	if at := b.cell(1, "m"); at != handle(2, 2) {
		t.Errorf("a slot given anew: %v", at)
	}
	b.wantKey(handle(1, 2), "n")
	b.wantStale(handle(1, 1))
}

// P16.2, Cell: which errors it answers, and in which order.
func TestCellRefuses(t *testing.T) {
	b := begin(t, 4, 4)
	long := strings.Repeat("k", 65)
	b.reserve(0, 1, 1)
	b.reserve(own, 0, 1)
	for _, key := range []string{"", long, "a"} {
		for _, s := range wrongSessions {
			b.wantNoCell(s, key, api.ErrArg)
		}
		for _, s := range []int{1, 15} {
			b.wantNoCell(s, key, api.ErrReserve)
		}
	}
	for _, s := range []int{0, own} {
		b.wantNoCell(s, "", api.ErrKey)
		b.wantNoCell(s, long, api.ErrKey)
	}
	b.wantNoCell(own, "a", api.ErrFull)
	b.wantReserved(0, 1, 1)
	b.wantReserved(own, 0, 1)
	b.cell(0, long[:64])
	b.wantNoCell(0, "", api.ErrKey)
	b.wantNoCell(0, "a", api.ErrFull)
	b.wantRoom(3, 2)
	b.release(0)
	b.wantNoCell(0, "a", api.ErrReserve)
	b.wantCounts(1, 0, 0)
}

// P16.2, Drop: the slot is free, and reserved by who drops it, whoever has made it.
func TestDrop(t *testing.T) {
	b := begin(t, 3, 4)
	b.reserve(0, 2, 2)
	b.reserve(own, 0, 0)
	a, c := b.cell(0, "a"), b.cell(0, "c")
	b.wantRoom(1, 2)
	b.want("Drop", b.h.Drop(0, a), api.OK)
	b.wantReserved(0, 1, 2)
	b.want("Drop", b.h.Drop(own, c), api.OK)
	b.wantReserved(0, 1, 2)
	b.wantReserved(own, 1, 0)
	b.wantRoom(1, 2)
	b.wantCounts(0, 0, 0)
	b.wantStale(a)
	b.wantStale(c)
	b.wantLimbo()
	d := b.cell(own, "d")
	if d != handle(0, 2) {
		t.Errorf("a slot given anew: %v", d)
	}
	b.release(own)
	b.want("Drop", b.h.Drop(0, d), api.OK) // one that stood there when its session released
	b.wantReserved(0, 2, 2)
	b.wantRoom(1, 2)
}

// P16.2, Drop: which errors it answers, and in which order.
func TestDropRefuses(t *testing.T) {
	b := begin(t, 3, 4)
	b.reserve(0, 2, 2)
	a := b.cell(0, "a")
	b.install(0, a, has(1, "x"))
	for _, at := range []api.Handle{a, {}, handle(1, 1), handle(0, 2)} {
		for _, s := range wrongSessions {
			b.want("Drop", b.h.Drop(s, at), api.ErrArg)
		}
		b.want("Drop", b.h.Drop(1, at), api.ErrReserve)
		b.want("Drop", b.h.Drop(own, at), api.ErrReserve)
	}
	b.wantCounts(1, 1, 0)
	for n, at := range []api.Handle{{}, handle(1, 1), handle(0, 2), handle(0, 0), handle(-1, 1), handle(3, 1), handle(math.MaxInt, math.MaxInt64)} {
		b.want("Drop", b.h.Drop(0, at), api.ErrStale)
		b.wantCounts(1, 1, int64(n)+1)
	}
	b.want("Drop", b.h.Drop(0, a), api.ErrKept)
	b.install(0, a, gone(2))
	b.wantPrune(a, 2, 0, true)
	b.want("Drop of one that is closed", b.h.Drop(0, a), api.ErrKept)
	b.wantList(a, true, gone(2), has(1, "x"))
	b.wantReserved(0, 1, 0)
	b.want("Retire", b.h.Retire(a), api.OK)
	b.want("Drop", b.h.Drop(0, a), api.OK) // it has no version any more
	b.wantReserved(0, 2, 0)
	b.wantStale(a)
}

// P16.2, Install: the newest version, ahead of the others; a slot of those that the session has reserved.
func TestInstall(t *testing.T) {
	b := begin(t, 2, 6)
	b.reserve(0, 2, 3)
	b.reserve(own, 0, 3)
	a, c := b.cell(0, "a"), b.cell(0, "c")
	b.install(0, a, has(1, ""))
	b.wantList(a, false, has(1, ""))
	b.install(own, c, gone(4))
	b.install(own, a, gone(3))
	b.install(0, a, has(4, strings.Repeat("\xff", 256)))
	b.install(own, a, has(maxTS, "z"))
	b.wantList(a, false, has(maxTS, "z"), has(4, strings.Repeat("\xff", 256)), gone(3), has(1, ""))
	b.wantList(c, false, gone(4))
	b.wantReserved(0, 0, 1)
	b.wantReserved(own, 0, 0)
	b.wantCounts(2, 5, 0)
	b.wantRoom(0, 0)
}

// P16.2, Install: which errors it answers, and in which order.
func TestInstallRefuses(t *testing.T) {
	b := begin(t, 3, 6)
	shut := b.closed("s", 9)
	b.reserve(0, 1, 1)
	b.reserve(2, 1, 1)
	a := b.cell(2, "a")
	b.install(2, a, has(5, "x")) // the session 2 has no version left
	wrong := []api.Version{{}, has(0, "x"), has(-1, "x"), has(maxTS+1, "x"), has(7, strings.Repeat("v", 257)), {TS: 7, Value: "x", Del: true}}
	late := []api.Version{has(5, "y"), gone(5), has(4, "y"), has(1, "")}
	good := []api.Version{has(6, "y"), gone(6), has(maxTS, "")}
	for _, v := range slices.Concat(wrong, late, good) {
		for _, at := range []api.Handle{a, shut, {}, handle(0, 2)} {
			for _, s := range wrongSessions {
				b.want("Install", b.h.Install(s, at, v), api.ErrArg)
			}
			b.want("Install", b.h.Install(1, at, v), api.ErrReserve)
			b.want("Install", b.h.Install(own, at, v), api.ErrReserve)
		}
		b.wantCounts(2, 2, 0)
	}
	for _, s := range []int{0, 2} {
		for _, v := range slices.Concat(wrong, late, good) {
			was := b.h.Stale()
			for _, at := range []api.Handle{{}, handle(0, 2), handle(2, 1), handle(-1, 1), handle(0, 0)} {
				b.want("Install", b.h.Install(s, at, v), api.ErrStale)
			}
			b.wantCounts(2, 2, was+5)
			b.want("Install", b.h.Install(s, shut, v), api.ErrClosed)
		}
		for _, v := range wrong {
			b.want("Install", b.h.Install(s, a, v), api.ErrVersion)
		}
		for _, v := range late {
			b.want("Install", b.h.Install(s, a, v), api.ErrOrder)
		}
	}
	for _, v := range good {
		b.want("Install", b.h.Install(2, a, v), api.ErrFull)
	}
	b.wantList(a, false, has(5, "x"))
	b.wantList(shut, true, gone(9))
	b.wantReserved(0, 1, 1)
	b.wantReserved(2, 0, 0)
	b.wantRoom(0, 3)
	b.want("Retire", b.h.Retire(shut), api.OK)
	b.want("Install to one that was retired", b.h.Install(0, shut, has(10, "x")), api.ErrClosed)
	b.install(0, a, good[0])
}

// P16.2: a cell has at most MaxVersions; that stands ahead of ErrFull, and behind the other errors of version.Put.
func TestInstallManyVersions(t *testing.T) {
	b := begin(t, 1, 1030)
	b.reserve(0, 1, 1030)
	a := b.cell(0, "a")
	for ts := int64(1); ts <= 1024; ts++ {
		b.install(0, a, has(ts, "v"))
	}
	b.reserve(1, 0, 0)
	for _, s := range []int{0, 1} {
		b.want("Install", b.h.Install(s, a, has(1025, "v")), api.ErrLong)
		b.want("Install", b.h.Install(s, a, has(1024, "v")), api.ErrOrder)
		b.want("Install", b.h.Install(s, a, has(0, "v")), api.ErrVersion)
	}
	b.wantReserved(0, 0, 6)
	b.wantCounts(1, 1024, 0)
	b.wantRead(a, maxTS, has(1024, "v"))
	b.wantRead(a, 1, has(1, "v"))
	b.wantNoRead(a, 0)
	b.wantPrune(a, 2, 1, false)
	b.want("Install", b.h.Install(1, a, has(1025, "v")), api.ErrFull)
	b.install(0, a, has(1025, "v"))
	b.want("Install", b.h.Install(0, a, has(1026, "v")), api.ErrLong)
	b.wantPrune(a, maxTS, 1023, false)
	b.wantList(a, false, has(1025, "v"))
	b.wantCounts(1, 1025, 0)
	b.settle()
	b.wantCounts(1, 1, 0)
}
