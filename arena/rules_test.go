package arena_test

import (
	"iter"
	"math"
	"runtime"
	"slices"
	"testing"
	"weak"

	"cresset/api"
	"cresset/arena"
)

// The calls that the chapter lists keep their signatures.
var (
	_ func(int) (*arena.Arena[string], api.Errno)                      = arena.New[string]
	_ func(*arena.Arena[string], string) (api.Handle, api.Errno)       = (*arena.Arena[string]).Put
	_ func(*arena.Arena[string], api.Handle) (string, api.Errno)       = (*arena.Arena[string]).Get
	_ func(*arena.Arena[string], api.Handle, string) api.Errno         = (*arena.Arena[string]).Set
	_ func(*arena.Arena[string], api.Handle) api.Errno                 = (*arena.Arena[string]).Free
	_ func(*arena.Arena[string]) int                                   = (*arena.Arena[string]).Slots
	_ func(*arena.Arena[string]) int                                   = (*arena.Arena[string]).Live
	_ func(*arena.Arena[string]) int64                                 = (*arena.Arena[string]).Stale
	_ func(*arena.Arena[string]) iter.Seq2[api.Handle, string]         = (*arena.Arena[string]).All
	_ func(*arena.Arena[string]) *arena.Arena[string]                  = (*arena.Arena[string]).Clone
	_ func(int) (*arena.Arena[map[string][]func(chan any)], api.Errno) = arena.New[map[string][]func(chan any)]
)

func TestErrorsHaveTheirNumbers(t *testing.T) {
	got := []api.Errno{api.OK, api.ErrArg, api.ErrMade, api.ErrFull, api.ErrStale, api.MaxSlots}
	if wanted := []api.Errno{0, 1, 2, 5, 7, 65536}; !slices.Equal(got, wanted) {
		t.Errorf("errors and limits are %v, want %v", got, wanted)
	}
}

// R3: an array that is put or read is the arena's or the caller's alone.
func TestValuesAreCopies(t *testing.T) {
	a := newArena[[3]int](t, 1)
	x := [3]int{1, 2, 3}
	h, _ := a.Put(x)
	x[0] = 9
	wantHas(t, a, h, [3]int{1, 2, 3})
	got, _ := a.Get(h)
	got[1] = 9
	wantHas(t, a, h, [3]int{1, 2, 3})
	for _, y := range a.All() {
		y[2] = 9
	}
	wantHas(t, a, h, [3]int{1, 2, 3})
	want(t, "Set", a.Set(h, x), api.OK)
	x[0] = 7
	wantHas(t, a, h, [3]int{9, 2, 3})
}

// R3: what a value leads to is not written to, neither when its slot is taken back nor when it is given anew.
func TestWhatAValueLeadsToIsLeft(t *testing.T) {
	a := newArena[[]int](t, 1)
	list := []int{1, 2, 3}
	h, _ := a.Put(list[:2])
	c := a.Clone()
	a.Set(h, list[1:])
	a.Free(h)
	a.Put([]int{7})
	if !slices.Equal(list, []int{1, 2, 3}) {
		t.Errorf("what was handed in is %v", list)
	}
	if got, e := c.Get(h); e != api.OK || !slices.Equal(got, []int{1, 2}) {
		t.Errorf("the clone has %v (%d)", got, e)
	}
}

// What a freed slot had is not kept alive by the arena, nor is what Set took its place of.
func TestFreeKeepsNothingAlive(t *testing.T) {
	a := newArena[*[1000]int](t, 2)
	first, second := new([1000]int), new([1000]int)
	gone := []weak.Pointer[[1000]int]{weak.Make(first), weak.Make(second)}
	h, _ := a.Put(first)
	g, _ := a.Put(second)
	a.Free(h)
	a.Set(g, nil)
	first, second = nil, nil
	runtime.GC()
	for i, w := range gone {
		if w.Value() != nil {
			t.Errorf("value %d is kept", i)
		}
	}
	runtime.KeepAlive(a)
}

// R3: All tells what was there when it was asked for, whatever is done on the way or behind; it may stop, and be done again.
func TestAllTellsWhatWasThere(t *testing.T) {
	a := newArena[int](t, 6)
	for i := range 4 {
		a.Put(i * 10)
	}
	a.Free(handle(1, 1))
	seq := a.All()
	collect := func() []item[int] {
		var list []item[int]
		for h, x := range seq {
			list = append(list, item[int]{h, x})
		}
		return list
	}
	wanted := []item[int]{{handle(0, 1), 0}, {handle(2, 1), 20}, {handle(3, 1), 30}}
	var got []item[int]
	for h, x := range seq {
		got = append(got, item[int]{h, x})
		a.Put(99)
		a.Set(handle(3, 1), 31)
		a.Free(h)
	}
	if !slices.Equal(got, wanted) {
		t.Errorf("changed on the way: %v", got)
	}
	for h, x := range seq {
		if h != handle(0, 1) || x != 0 {
			t.Errorf("the first one is %v, %d", h, x)
		}
		break
	}
	if got := collect(); !slices.Equal(got, wanted) {
		t.Errorf("again: %v", got)
	}
	for h := range a.All() {
		a.Free(h)
	}
	wantAll(t, a)
	if got := collect(); !slices.Equal(got, wanted) {
		t.Errorf("behind all: %v", got)
	}
}

// R3: All ends where its caller says so, at each place.
func TestAllMayStopAnywhere(t *testing.T) {
	a := newArena[int](t, 5)
	for i := range 5 {
		a.Put(i)
	}
	for stop := 1; stop <= 5; stop++ {
		n := 0
		for _, x := range a.All() {
			if x != n {
				t.Fatalf("%d told at the place %d", x, n)
			}
			if n++; n == stop {
				break
			}
		}
		if n != stop {
			t.Errorf("%d told, want %d", n, stop)
		}
	}
}

// R5: an arena that no call made; nothing is counted there.
func TestAnArenaThatNoCallMade(t *testing.T) {
	for _, a := range []*arena.Arena[string]{nil, {}} {
		for range 2 {
			if h, e := a.Put("x"); h != (api.Handle{}) || e != api.ErrMade {
				t.Errorf("Put = %v, %d", h, e)
			}
			for _, h := range []api.Handle{{}, handle(0, 1), handle(-1, 1), handle(math.MaxInt, math.MaxInt64)} {
				if x, e := a.Get(h); x != "" || e != api.ErrMade {
					t.Errorf("Get(%v) = %q, %d", h, x, e)
				}
				want(t, "Set", a.Set(h, "x"), api.ErrMade)
				want(t, "Free", a.Free(h), api.ErrMade)
			}
			wantCounts(t, a, 0, 0, 0)
			wantAll(t, a)
			if a.Clone() != nil {
				t.Error("Clone is not nil")
			}
		}
	}
}

// R6: the same calls answer the same.
func TestSameAgain(t *testing.T) {
	run := func() []item[int] {
		a := newArena[int](t, 300)
		for i := range 3000 {
			if h, e := a.Put(i); e == api.OK && i%3 == 0 {
				a.Free(handle(i*i%300, h.Gen))
			}
			if i%50 == 0 {
				a.Free(handle(i*7%300, int64(i%4)))
			}
		}
		return append(all(a), item[int]{x: int(a.Stale())})
	}
	first := run()
	for range 10 {
		if again := run(); !slices.Equal(first, again) {
			t.Fatal("another answer the second time")
		}
	}
}

// The bound: so many calls would not end in time if each one went through all slots.
func TestAGreatArena(t *testing.T) {
	a := newArena[int](t, api.MaxSlots)
	for round := range int64(3) {
		for at := range api.MaxSlots {
			wantPut(t, a, at, handle(at, round+1))
		}
		wantFull(t, a, 0)
		for i := range api.MaxSlots {
			at := i * 40503 % api.MaxSlots // each slot once, far from the last one
			want(t, "Free", a.Free(handle(at, round+1)), api.OK)
		}
		wantCounts(t, a, api.MaxSlots, 0, 0)
	}
	for at := range api.MaxSlots {
		wantPut(t, a, at, handle(at, 4))
	}
	h := handle(17, 4)
	for range 200000 {
		wantHas(t, a, h, 17)
		want(t, "Set", a.Set(h, 17), api.OK)
		if a.Live() != api.MaxSlots {
			t.Fatal("Live is another one")
		}
	}
	if got := len(all(a.Clone())); got != api.MaxSlots {
		t.Errorf("All of a clone tells %d", got)
	}
}
