package heap_test

import (
	"iter"
	"math"
	"runtime"
	"slices"
	"strconv"
	"strings"
	"testing"

	"cresset/api"
	"cresset/epoch"
	"cresset/heap"
)

// The calls that the chapter lists keep their signatures.
var (
	_ func(int, int, *epoch.Epoch) (*heap.Heap, api.Errno)               = heap.New
	_ func(*heap.Heap, int, int, int) api.Errno                          = (*heap.Heap).Reserve
	_ func(*heap.Heap, int) api.Errno                                    = (*heap.Heap).Release
	_ func(*heap.Heap, int) (int, int, bool)                             = (*heap.Heap).Reserved
	_ func(*heap.Heap, int, string) (api.Handle, api.Errno)              = (*heap.Heap).Cell
	_ func(*heap.Heap, int, api.Handle) api.Errno                        = (*heap.Heap).Drop
	_ func(*heap.Heap, int, api.Handle, api.Version) api.Errno           = (*heap.Heap).Install
	_ func(*heap.Heap, api.Handle) (string, api.Errno)                   = (*heap.Heap).Key
	_ func(*heap.Heap, api.Handle, int64) (api.Version, bool, api.Errno) = (*heap.Heap).Read
	_ func(*heap.Heap, api.Handle) ([]api.Version, bool, api.Errno)      = (*heap.Heap).List
	_ func(*heap.Heap, api.Handle, int64) (int, bool, api.Errno)         = (*heap.Heap).Prune
	_ func(*heap.Heap, api.Handle) api.Errno                             = (*heap.Heap).Reopen
	_ func(*heap.Heap, api.Handle) api.Errno                             = (*heap.Heap).Retire
	_ func(*heap.Heap, api.Retired) api.Errno                            = (*heap.Heap).Free
	_ func(*heap.Heap) int                                               = (*heap.Heap).Cells
	_ func(*heap.Heap) int                                               = (*heap.Heap).Versions
	_ func(*heap.Heap) (int, int)                                        = (*heap.Heap).Room
	_ func(*heap.Heap) int64                                             = (*heap.Heap).Stale
	_ func(*heap.Heap) iter.Seq2[api.Handle, string]                     = (*heap.Heap).All
)

func TestErrorsHaveTheirNumbers(t *testing.T) {
	got := []api.Errno{api.OK, api.ErrArg, api.ErrMade, api.ErrFull, api.ErrStale, api.ErrKey, api.ErrOrder, api.ErrVersion, api.ErrLong, api.ErrClosed, api.ErrReserve, api.ErrKept, api.ReHeap, api.ReCell, api.Sessions}
	if wanted := []api.Errno{0, 1, 2, 5, 7, 30, 150, 151, 3, 160, 161, 162, 3, 4, 16}; !slices.Equal(got, wanted) {
		t.Errorf("errors and kinds are %v, want %v", got, wanted)
	}
}

var (
	anyNumbers = []int{math.MinInt, -1, 0, 1, 2, 15, 16, 17, 65536, math.MaxInt}
	anyStamps  = []int64{math.MinInt64, -1, 0, 1, 2, 3, maxTS, maxTS + 1, math.MaxInt64}
	anyTexts   = []string{"", "a", "\x00", "\xff", "\xed\xa0\x80", strings.Repeat("k", 64), strings.Repeat("k", 65), strings.Repeat("v", 5000)}
)

// askAll asks all calls of a heap for all kinds of arguments; of each error it tells what beside it is not zero.
func askAll(h *heap.Heap) []string {
	var odd []string
	note := func(what string, e api.Errno, zero bool) {
		if e != api.OK && !zero {
			odd = append(odd, what+" beside "+strconv.Itoa(int(e)))
		}
	}
	for _, s := range anyNumbers {
		for _, n := range anyNumbers {
			h.Reserve(s, n, 1)
			h.Reserve(s, 1, n)
		}
		for _, key := range anyTexts {
			at, e := h.Cell(s, key)
			note("Cell", e, at == api.Handle{})
		}
		h.Reserved(s)
	}
	for _, slot := range anyNumbers {
		for _, gen := range anyStamps {
			at := handle(slot, gen)
			for i, ts := range anyStamps {
				h.Install(16, at, api.Version{TS: ts, Value: anyTexts[i%len(anyTexts)], Del: i%2 > 0})
				v, ok, e := h.Read(at, ts)
				note("Read", e, v == api.Version{} && !ok)
				n, closed, e := h.Prune(at, ts)
				note("Prune", e, n == 0 && !closed)
			}
			l, closed, e := h.List(at)
			note("List", e, l == nil && !closed)
			key, e := h.Key(at)
			note("Key", e, key == "")
			h.Reopen(at)
			h.Retire(at)
			h.Free(api.Retired{Kind: slot, Handle: at})
			h.Drop(slot, at)
		}
	}
	for _, s := range anyNumbers {
		h.Release(s)
	}
	all(h)
	return odd
}

// R1, R2: whatever is handed in, each call ends, and none panics; beside an error all is zero.
func TestAnyArguments(t *testing.T) {
	for _, cells := range []int{1, 2, 20, 65536} {
		for _, versions := range []int{1, 3, 20, 65536} {
			b := begin(t, cells, versions)
			for range 3 {
				if odd := askAll(b.h); odd != nil {
					t.Errorf("not zero: %v", odd)
				}
				if c, v := b.h.Room(); c < 0 || v < 0 || c > cells || v > versions {
					t.Errorf("Room is %d, %d", c, v)
				}
				b.e.Advance()
			}
		}
	}
}

// R2: what is refused has changed nothing.
func TestWhatIsRefusedChangesNothing(t *testing.T) {
	x := newPair(t, 2, 4)
	x.reserve(0, 2, 2)
	a, c := x.cell(0, "a"), x.cell(0, "c")
	x.install(0, a, has(1, "x"))
	x.install(0, c, gone(1))
	x.prune(c, 1)
	for _, ask := range []func() api.Errno{
		func() api.Errno { _, e := heap.New(0, 1, x.e); return e },
		func() api.Errno { return x.h.Reserve(0, 0, 0) },
		func() api.Errno { return x.h.Reserve(1, 0, 3) },
		func() api.Errno { return x.h.Reserve(17, 0, 0) },
		func() api.Errno { return x.h.Release(1) },
		func() api.Errno { _, e := x.h.Cell(0, "d"); return e },
		func() api.Errno { _, e := x.h.Cell(0, ""); return e },
		func() api.Errno { return x.h.Drop(0, a) },
		func() api.Errno { return x.h.Install(0, a, has(1, "y")) },
		func() api.Errno { return x.h.Install(0, a, has(0, "y")) },
		func() api.Errno { return x.h.Install(0, c, has(2, "y")) },
		func() api.Errno { return x.h.Reopen(a) },
		func() api.Errno { return x.h.Retire(a) },
		func() api.Errno { return x.h.Free(api.Retired{Kind: 9, Handle: a}) },
	} {
		if ask() == api.OK {
			t.Error("it is not refused")
		}
		x.compare()
	}
}

// R3: what List answers is its caller's alone.
func TestListIsTheCallers(t *testing.T) {
	b := begin(t, 1, 4)
	a := b.filled("a", has(1, "x"), has(2, "y"), has(3, "z"))
	l, _, _ := b.h.List(a)
	other, _, _ := b.h.List(a)
	l[0], l[1] = has(9, "mine"), gone(8)
	l = append(l[:2], has(7, "mine"))
	clear(l)
	wanted := []api.Version{has(3, "z"), has(2, "y"), has(1, "x")}
	if !slices.Equal(other, wanted) {
		t.Errorf("another answer is %v", other)
	}
	b.wantList(a, false, wanted...)
	b.wantPrune(a, 2, 1, false)
	if !slices.Equal(other, wanted) {
		t.Errorf("an answer that was given is %v behind a Prune", other)
	}
}

// R3: All tells what was there when it was asked for, whatever is done on the way or behind; it may stop, and be done again.
func TestAllTellsWhatWasThere(t *testing.T) {
	b := begin(t, 4, 4)
	none := b.h.All()
	b.reserve(0, 4, 0)
	x, y, z := b.cell(0, "x"), b.cell(0, "y"), b.cell(0, "z")
	seq := b.h.All()
	wanted := []item{{x, "x"}, {y, "y"}, {z, "z"}}
	collect := func(seq iter.Seq2[api.Handle, string], each func(at api.Handle)) []item {
		var l []item
		for at, key := range seq {
			l = append(l, item{at, key})
			each(at)
		}
		return l
	}
	if got := collect(seq, func(at api.Handle) { b.h.Drop(0, at); b.h.Cell(0, "new") }); !slices.Equal(got, wanted) {
		t.Errorf("changed on the way: %v", got)
	}
	for stop := 1; stop <= 3; stop++ {
		n := 0
		for at := range seq {
			if at != wanted[n].at {
				t.Errorf("at the place %d: %v", n, at)
			}
			if n++; n == stop {
				break
			}
		}
		if n != stop {
			t.Errorf("%d told, want %d", n, stop)
		}
	}
	for range 2 {
		if got := collect(seq, func(api.Handle) {}); !slices.Equal(got, wanted) {
			t.Errorf("again: %v", got)
		}
		if got := collect(none, func(api.Handle) {}); got != nil {
			t.Errorf("asked for when there was none: %v", got)
		}
	}
}

// R5, P16.4: a heap that no call made; ErrMade stands ahead of all other errors, and nothing is kept there.
func TestAHeapThatNoCallMade(t *testing.T) {
	for _, h := range []*heap.Heap{nil, {}, new(heap.Heap)} {
		b := bench{t, h, nil}
		for range 2 {
			for _, s := range slices.Concat(wrongSessions, []int{0, 1, own}) {
				b.want("Reserve", h.Reserve(s, 0, 0), api.ErrMade)
				b.want("Reserve", h.Reserve(s, -1, -1), api.ErrMade)
				b.want("Release", h.Release(s), api.ErrMade)
				b.wantNoneReserved(s)
				b.wantNoCell(s, "a", api.ErrMade)
				b.wantNoCell(s, "", api.ErrMade)
				b.want("Drop", h.Drop(s, handle(0, 1)), api.ErrMade)
				b.want("Install", h.Install(s, handle(0, 1), has(1, "x")), api.ErrMade)
				b.want("Install", h.Install(s, api.Handle{}, api.Version{}), api.ErrMade)
			}
			for _, at := range []api.Handle{{}, handle(0, 1), handle(-1, -1)} {
				if key, e := h.Key(at); key != "" || e != api.ErrMade {
					t.Errorf("Key = %q, %d", key, e)
				}
				if v, ok, e := h.Read(at, 1); v != (api.Version{}) || ok || e != api.ErrMade {
					t.Errorf("Read = %v, %v, %d", v, ok, e)
				}
				if l, c, e := h.List(at); l != nil || c || e != api.ErrMade {
					t.Errorf("List = %v, %v, %d", l, c, e)
				}
				if n, c, e := h.Prune(at, 1); n != 0 || c || e != api.ErrMade {
					t.Errorf("Prune = %d, %v, %d", n, c, e)
				}
				b.want("Reopen", h.Reopen(at), api.ErrMade)
				b.want("Retire", h.Retire(at), api.ErrMade)
				for kind := range 6 {
					b.want("Free", h.Free(api.Retired{Kind: kind, Handle: at}), api.ErrMade)
				}
			}
			b.wantCounts(0, 0, 0)
			b.wantRoom(0, 0)
			b.wantAll()
			if odd := askAll(h); odd != nil {
				t.Errorf("not zero: %v", odd)
			}
		}
	}
}

// R6: the same calls answer the same.
func TestSameAgain(t *testing.T) {
	run := func() []string {
		b := begin(t, 5, 9)
		var l []string
		note := func(n ...int) {
			for _, x := range n {
				l = append(l, strconv.Itoa(x))
			}
		}
		for i := range 4000 {
			s, at := i*i%17, handle(i%5, int64(1+i/300+i%2))
			note(int(b.h.Reserve(s, i%3, i%4)))
			made, e := b.h.Cell(i*7%17, strconv.Itoa(i))
			note(made.Slot, int(made.Gen), int(e))
			note(int(b.h.Install(i*3%17, at, api.Version{TS: int64(i + 1), Del: i%3 == 0})))
			n, _, e := b.h.Prune(at, int64(i-i%5))
			note(n, int(e), int(b.h.Retire(at)), int(b.h.Release(i*5%17)))
			free, _ := b.e.Advance()
			for _, x := range free {
				note(x.Kind, x.Handle.Slot, int(b.h.Free(x)))
			}
			note(b.h.Cells(), b.h.Versions(), int(b.h.Stale()))
			for _, x := range all(b.h) {
				l = append(l, x.key)
			}
		}
		return l
	}
	first := run()
	for range 3 {
		if again := run(); !slices.Equal(first, again) {
			t.Fatal("another answer the second time")
		}
	}
}

// The bound: as many cells and versions as there can be.
func TestGreatHeaps(t *testing.T) {
	const many = 65536
	b := begin(t, many, many)
	for round := range 2 {
		b.reserve(0, many, many)
		for i := range many {
			at := b.cell(0, strconv.Itoa(i))
			b.install(0, at, gone(int64(i+1)))
			if at != handle(i, int64(round+1)) {
				t.Fatalf("the cell %d is %v", i, at)
			}
		}
		b.wantNoCell(0, "a", api.ErrFull)
		b.wantCounts(many, many, 0)
		b.wantRoom(0, 0)
		b.release(0)
		if l := all(b.h); len(l) != many || l[many-1] != (item{handle(many-1, int64(round+1)), strconv.Itoa(many - 1)}) {
			t.Fatalf("All tells %d", len(l))
		}
		for i := range many {
			at := handle(i, int64(round+1))
			b.wantRead(at, maxTS, gone(int64(i+1)))
			b.wantPrune(at, maxTS, 0, true)
			b.want("Retire", b.h.Retire(at), api.OK)
		}
		b.settle()
		b.wantCounts(0, 0, 0)
		b.wantRoom(many, many)
	}
}

// The bound: what was freed takes no room.
func TestNothingIsKeptOfWhatIsFreed(t *testing.T) {
	held := func() uint64 {
		runtime.GC()
		var m runtime.MemStats
		runtime.ReadMemStats(&m)
		return m.HeapAlloc
	}
	b := begin(t, 4, 8)
	before := held()
	for round := range int64(30000) {
		at := b.filled(strings.Repeat(strconv.FormatInt(round%10, 10), 64), has(round+1, strings.Repeat("v", int(round%257))), gone(round+2))
		b.wantPrune(at, round+2, 0, true)
		b.want("Retire", b.h.Retire(at), api.OK)
		b.settle()
	}
	if behind := held(); behind > before+1<<20 {
		t.Errorf("%d bytes are held behind it, %d ahead", behind, before)
	}
	b.wantCounts(0, 0, 0)
	runtime.KeepAlive(b.h)
}
