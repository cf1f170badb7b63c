package heap_test

import (
	"math"
	"slices"
	"testing"

	"cresset/api"
	"cresset/heap"
)

// P16.3: handles that are not good; each call that is asked for one counts it once.
func TestStaleHandles(t *testing.T) {
	b := begin(t, 3, 3)
	a := b.filled("a", has(1, "x"))
	c := b.closed("c", 1)
	b.want("Retire", b.h.Retire(c), api.OK)
	b.settle()
	if again := b.filled("c", has(3, "z")); again != handle(1, 2) {
		t.Fatalf("a slot given anew: %v", again)
	}
	b.wantStale(c)
	for _, slot := range []int{0, 1, 2, 3, -1, math.MinInt, math.MaxInt} {
		for _, gen := range []int64{0, 1, 2, 3, -1, math.MinInt64, math.MaxInt64} {
			if at := handle(slot, gen); at != a && at != handle(1, 2) {
				b.wantStale(at)
			}
		}
	}
	b.wantList(a, false, has(1, "x"))
	b.wantList(handle(1, 2), false, has(3, "z"))
	b.wantLimbo()
}

// P16.3, Key: also of a cell that is closed, or was retired.
func TestKey(t *testing.T) {
	b := begin(t, 3, 3)
	a := b.filled("a\x00\xff")
	c := b.closed("c", 4)
	for range 2 {
		b.wantKey(a, "a\x00\xff")
		b.wantKey(c, "c")
	}
	b.want("Retire", b.h.Retire(c), api.OK)
	b.wantKey(c, "c")
	b.settle()
	b.wantStale(c)
	b.wantKey(a, "a\x00\xff")
}

// P16.3, Read: at each timestamp; a version that is Del is told, too.
func TestRead(t *testing.T) {
	b := begin(t, 3, 6)
	other := b.filled("b", has(4, "other"))
	a := b.filled("a", has(2, "p"), has(5, ""), gone(6), has(9, "q"))
	told := map[int64]api.Version{2: has(2, "p"), 3: has(2, "p"), 4: has(2, "p"), 5: has(5, ""), 6: gone(6), 7: gone(6), 8: gone(6), 9: has(9, "q"), 10: has(9, "q"), maxTS: has(9, "q"), math.MaxInt64: has(9, "q")}
	for _, ts := range []int64{math.MinInt64, -1, 0, 1, 2, 3, 4, 5, 6, 7, 8, 9, 10, maxTS, math.MaxInt64} {
		if v, ok := told[ts]; ok {
			b.wantRead(a, ts, v)
		} else {
			b.wantNoRead(a, ts)
		}
	}
	b.wantNoRead(other, 3)
	b.wantRead(other, 4, has(4, "other"))
	b.wantNoRead(b.filled("n"), maxTS)
}

// P16.3: a cell that is closed is read as before, until it is retired.
func TestReadOfAClosedCell(t *testing.T) {
	b := begin(t, 1, 4)
	a := b.filled("a", has(2, "p"), gone(6))
	b.wantPrune(a, 6, 0, true)
	b.wantRead(a, 5, has(2, "p"))
	b.wantRead(a, 6, gone(6))
	b.wantList(a, true, gone(6), has(2, "p"))
	b.want("Retire", b.h.Retire(a), api.OK)
	b.wantNoRead(a, 5)
	b.wantNoRead(a, maxTS)
	b.wantList(a, true)
	b.wantCounts(1, 2, 0)
}

// P16.3, Prune: what is not kept is cut off, and waits, the newer one first.
func TestPrune(t *testing.T) {
	b := begin(t, 2, 8)
	other := b.filled("b", has(1, "other"), has(2, "other")) // versions 0 and 1
	a := b.filled("a", has(2, "p"), gone(4), has(6, "q"), has(8, "r"))
	for _, mark := range []int64{math.MinInt64, -1, 0, 1} { // no version is below
		b.wantPrune(a, mark, 0, false)
	}
	b.wantPrune(a, 2, 0, false)
	b.wantPrune(a, 3, 0, false)
	b.wantList(a, false, has(8, "r"), has(6, "q"), gone(4), has(2, "p"))
	b.wantLimbo()
	b.wantPrune(a, 4, 2, false) // the one that is gone is told by none as well
	b.wantList(a, false, has(8, "r"), has(6, "q"))
	b.wantNoRead(a, 5)
	wait := []api.Retired{aVersion(handle(3, 1)), aVersion(handle(2, 1))}
	b.wantLimbo(wait...)
	b.wantCounts(2, 6, 0)
	b.wantPrune(a, 4, 0, false)
	b.wantPrune(a, 7, 0, false)
	b.wantPrune(a, 8, 1, false)
	b.wantList(a, false, has(8, "r"))
	b.wantPrune(a, math.MaxInt64, 0, false)
	b.wantLimbo(append(wait, aVersion(handle(4, 1)))...)
	b.wantList(other, false, has(2, "other"), has(1, "other"))
	b.settle()
	b.wantCounts(2, 3, 0)
	// The chain goes on, in slots that are given anew.
	b.reserve(0, 0, 2)
	b.install(0, a, has(9, "s"), gone(10))
	b.wantList(a, false, gone(10), has(9, "s"), has(8, "r"))
	b.wantList(other, false, has(2, "other"), has(1, "other"))
	b.wantPrune(a, 9, 1, false)
	b.wantList(a, false, gone(10), has(9, "s"))
	b.wantLimbo(aVersion(handle(5, 1)))
}

// P16.3, Prune: where none is kept the cell is closed, and all else stays.
func TestPruneCloses(t *testing.T) {
	b := begin(t, 2, 4)
	a := b.filled("a", has(2, "p"), gone(4))
	b.wantPrune(a, 3, 0, false)
	b.wantList(a, false, gone(4), has(2, "p"))
	for mark := int64(4); mark < 7; mark++ {
		b.wantPrune(a, mark, 0, true)
		b.wantList(a, true, gone(4), has(2, "p"))
	}
	b.wantPrune(a, 0, 0, true) // one that is closed is left as it is, at any mark
	b.wantLimbo()
	b.wantCounts(1, 2, 0)
	b.want("Reopen", b.h.Reopen(a), api.OK)
	b.wantPrune(a, 3, 0, false)
	b.wantPrune(a, 4, 0, true)
	b.want("Retire", b.h.Retire(a), api.OK)
	b.wantPrune(a, 4, 0, true)
	b.wantPrune(a, 0, 0, true)
	b.wantLimbo(aVersion(handle(1, 1)), aVersion(handle(0, 1)), aCell(a))
}

// P16.3, Prune: a cell without versions is not closed by it.
func TestPruneOfAnEmptyCell(t *testing.T) {
	b := begin(t, 1, 1)
	b.reserve(0, 1, 1)
	a := b.cell(0, "a")
	for _, mark := range []int64{math.MinInt64, 0, 1, maxTS, math.MaxInt64} {
		b.wantPrune(a, mark, 0, false)
	}
	b.wantList(a, false)
	b.install(0, a, has(1, "x"))
	b.wantLimbo()
}

// P16.3, Reopen: a cell that is closed is none any more; versions go on there.
func TestReopen(t *testing.T) {
	b := begin(t, 3, 4)
	empty := b.filled("e")
	b.want("Reopen of an empty cell", b.h.Reopen(empty), api.ErrKept)
	a := b.filled("a", has(1, "x"))
	b.want("Reopen of one that is not closed", b.h.Reopen(a), api.ErrKept)
	b.reserve(0, 0, 2)
	b.install(0, a, gone(3))
	b.wantPrune(a, 3, 0, true)
	b.want("Install", b.h.Install(0, a, has(4, "y")), api.ErrClosed)
	b.want("Reopen", b.h.Reopen(a), api.OK)
	b.want("Reopen again", b.h.Reopen(a), api.ErrKept)
	b.wantList(a, false, gone(3), has(1, "x"))
	b.wantKey(a, "a")
	b.install(0, a, has(4, "y"))
	b.wantList(a, false, has(4, "y"), gone(3), has(1, "x"))
	b.wantPrune(a, 3, 2, false)
	b.wantLimbo(aVersion(handle(1, 1)), aVersion(handle(0, 1)))
	c := b.closed("c", 5)
	b.want("Retire", b.h.Retire(c), api.OK)
	b.want("Reopen of one that was retired", b.h.Reopen(c), api.ErrKept)
	b.wantList(c, true)
	b.wantCounts(3, 4, 0)
}

// P16.3, Retire: the versions wait, the newer one first, and then the cell.
func TestRetire(t *testing.T) {
	b := begin(t, 3, 6)
	a := b.filled("a", has(1, "x"), has(2, "y"), gone(3))
	empty := b.filled("e")
	b.want("Retire of one that is not closed", b.h.Retire(a), api.ErrKept)
	b.want("Retire of an empty cell", b.h.Retire(empty), api.ErrKept)
	b.wantPrune(a, 3, 0, true)
	b.want("Reopen", b.h.Reopen(a), api.OK)
	b.want("Retire of one that is open again", b.h.Retire(a), api.ErrKept)
	b.wantLimbo()
	b.wantPrune(a, 3, 0, true)
	b.want("Retire", b.h.Retire(a), api.OK)
	wait := []api.Retired{aVersion(handle(2, 1)), aVersion(handle(1, 1)), aVersion(handle(0, 1)), aCell(a)}
	b.wantLimbo(wait...)
	b.want("Retire again", b.h.Retire(a), api.ErrKept)
	b.wantLimbo(wait...)
	b.wantList(a, true)
	b.wantCounts(2, 3, 0)
	b.wantRoom(1, 3)
	b.wantAll(item{a, "a"}, item{empty, "e"})
	b.settle()
	b.wantCounts(1, 0, 0)
	b.wantRoom(2, 6)
	b.wantAll(item{empty, "e"})
	b.wantStale(a)
}

// P16.3: what waits does so in the epoch in which it was retired.
func TestRetiredInTheEpoch(t *testing.T) {
	b := begin(t, 2, 4)
	a := b.filled("a", has(1, "x"), has(2, "y"))
	c := b.closed("c", 1)
	b.wantPrune(a, 2, 1, false)
	b.e.Advance()
	b.want("Retire", b.h.Retire(c), api.OK)
	first, _ := b.e.Advance()
	second, _ := b.e.Advance()
	if !slices.Equal(first, []api.Retired{aVersion(handle(0, 1))}) || !slices.Equal(second, []api.Retired{aVersion(handle(2, 1)), aCell(c)}) {
		t.Errorf("the Advances answer %v, %v", first, second)
	}
}

// P16.3, Free: by the kind; other kinds are none of the heap's.
func TestFree(t *testing.T) {
	b := begin(t, 2, 4)
	a := b.filled("a", has(1, "x"), has(2, "y")) // the slot 0 and Gen 1 there are of both arenas
	for _, kind := range []int{0, 1, 2, 5, -1, -3, -4, 34, 1<<32 + 3, 1<<32 + 4, math.MinInt, math.MaxInt} {
		b.want("Free", b.h.Free(api.Retired{Kind: kind, Handle: a}), api.ErrArg)
		b.want("Free", b.h.Free(api.Retired{Kind: kind}), api.ErrArg)
	}
	b.wantCounts(1, 2, 0)
	for _, at := range []api.Handle{{}, handle(0, 2), handle(2, 1), handle(3, 1), handle(4, 1), handle(-1, 1), handle(math.MaxInt, 1)} {
		b.want("Free", b.h.Free(aVersion(at)), api.ErrStale)
	}
	b.wantCounts(1, 2, 7)
	b.wantPrune(a, 2, 1, false)
	b.want("Free", b.h.Free(aVersion(handle(0, 1))), api.OK)
	b.wantCounts(1, 1, 7)
	b.wantList(a, false, has(2, "y"))
	b.want("Free again", b.h.Free(aVersion(handle(0, 1))), api.ErrStale)
	b.want("Free", b.h.Free(aCell(a)), api.OK) // whatever it has: the cells' Free
	b.wantCounts(0, 1, 8)
	b.want("Free again", b.h.Free(aCell(a)), api.ErrStale)
	b.wantCounts(0, 1, 9)
	b.wantStale(a)
	b.wantRoom(2, 3)
}

// Where somebody frees versions that are in use, no call panics or makes up a list: what is asked of the cell answers ErrStale, and changes nothing.
func TestVersionsFreedInUse(t *testing.T) {
	for slot := range 3 {
		b := begin(t, 1, 4)
		b.reserve(0, 1, 4)
		a := b.cell(0, "a")
		b.install(0, a, has(1, "x"), has(2, "y"), gone(3))
		b.want("Free", b.h.Free(aVersion(handle(slot, 1))), api.OK)
		for range 2 {
			if v, ok, e := b.h.Read(a, 3); v != (api.Version{}) || ok || e != api.ErrStale {
				t.Errorf("Read = %v, %v, %d", v, ok, e)
			}
			if l, c, e := b.h.List(a); l != nil || c || e != api.ErrStale {
				t.Errorf("List = %v, %v, %d", l, c, e)
			}
			if n, c, e := b.h.Prune(a, 3); n != 0 || c || e != api.ErrStale {
				t.Errorf("Prune = %d, %v, %d", n, c, e)
			}
			b.want("Install", b.h.Install(0, a, has(4, "z")), api.ErrStale)
			b.want("Drop", b.h.Drop(0, a), api.ErrKept)
			b.want("Retire", b.h.Retire(a), api.ErrKept)
			b.wantKey(a, "a")
		}
		b.wantCounts(1, 2, 8)
		b.wantReserved(0, 0, 1)
		b.wantLimbo()
	}
	b := begin(t, 1, 1)
	a := b.closed("a", 1)
	b.want("Free", b.h.Free(aVersion(handle(0, 1))), api.OK)
	b.want("Retire", b.h.Retire(a), api.ErrStale)
	b.wantLimbo()
	b.want("Reopen", b.h.Reopen(a), api.OK)
}

// P16.4: All tells the cells by slots, those that are closed or were retired among them, until they are freed.
func TestAll(t *testing.T) {
	b := begin(t, 5, 5)
	b.wantAll()
	a := b.filled("z", has(1, "x"))
	c := b.closed("m", 1)
	d := b.filled("z")
	b.wantAll(item{a, "z"}, item{c, "m"}, item{d, "z"})
	b.want("Retire", b.h.Retire(c), api.OK)
	b.wantAll(item{a, "z"}, item{c, "m"}, item{d, "z"})
	b.settle()
	b.wantAll(item{a, "z"}, item{d, "z"})
	b.reserve(0, 2, 0)
	n, m := b.cell(0, "n"), b.cell(0, "a")
	b.wantAll(item{a, "z"}, item{n, "n"}, item{d, "z"}, item{m, "a"})
	b.want("Drop", b.h.Drop(0, n), api.OK)
	b.wantAll(item{a, "z"}, item{d, "z"}, item{m, "a"})
	if n != handle(1, 2) || m != handle(3, 1) {
		t.Errorf("cells %v, %v", n, m)
	}
}

// P16.4: Cells and Versions count what was retired, and not what is reserved; Stale counts both arenas' handles.
func TestCounts(t *testing.T) {
	b := begin(t, 3, 5)
	b.reserve(1, 2, 2)
	b.wantCounts(0, 0, 0)
	a := b.filled("a", has(1, "x"), has(2, "y"), gone(3))
	b.wantCounts(1, 3, 0)
	b.wantRoom(0, 0)
	b.wantPrune(a, 2, 1, false)
	b.wantCounts(1, 3, 0)
	b.wantPrune(a, 3, 0, true)
	b.want("Retire", b.h.Retire(a), api.OK)
	b.wantCounts(1, 3, 0)
	b.wantRoom(0, 0)
	b.settle()
	b.wantCounts(0, 0, 0)
	b.wantRoom(1, 3)
	b.want("Free", b.h.Free(aVersion(handle(0, 1))), api.ErrStale)
	b.wantCounts(0, 0, 1)
	b.want("Free", b.h.Free(aCell(a)), api.ErrStale)
	b.wantCounts(0, 0, 2)
	b.wantReserved(1, 2, 2)
}

// Two heaps may have one epoch: each one's handles are its own.
func TestTwoHeapsOfOneEpoch(t *testing.T) {
	b := begin(t, 1, 1)
	h, err := heap.New(1, 1, b.e)
	b.want("New", err, api.OK)
	other := bench{t, h, b.e}
	a, c := b.closed("a", 1), other.filled("c", has(1, "x"))
	b.want("Retire", b.h.Retire(a), api.OK)
	b.wantLimbo(aVersion(handle(0, 1)), aCell(a))
	other.wantList(c, false, has(1, "x"))
	b.settle()
	b.wantCounts(0, 0, 0)
	other.wantCounts(1, 1, 0)
	other.wantRead(c, 1, has(1, "x"))
}
