package cells_test

import (
	"math"
	"runtime"
	"slices"
	"testing"
	"weak"

	"cresset/api"
	"cresset/cells"
)

// The calls that the chapter lists keep their signatures, with types of all kinds.
var (
	_ func(string) *cells.Cell[string]                             = cells.NewCell[string]
	_ func(*cells.Cell[string]) (string, int64)                    = (*cells.Cell[string]).Load
	_ func(*cells.Cell[api.Handle], api.Handle, api.Handle) bool   = (*cells.Cell[api.Handle]).Swap
	_ func(*cells.Cell[any], any) int64                            = (*cells.Cell[any]).Set
	_ func(*cells.Cell[chan int]) *cells.Cell[chan int]            = (*cells.Cell[chan int]).Clone
	_ func(int) (*cells.Box[map[string]func(chan int)], api.Errno) = cells.NewBox[map[string]func(chan int)]
	_ func(*cells.Box[func()], func()) api.Errno                   = (*cells.Box[func()]).Put
	_ func(*cells.Box[[]int]) ([]int, api.Errno)                   = (*cells.Box[[]int]).Take
	_ func(*cells.Box[string]) int                                 = (*cells.Box[string]).Len
	_ func(*cells.Box[string]) int                                 = (*cells.Box[string]).Room
	_ func(*cells.Box[any]) *cells.Box[any]                        = (*cells.Box[any]).Clone
)

func TestErrorsHaveTheirNumbers(t *testing.T) {
	got := []api.Errno{api.OK, api.ErrArg, api.ErrMade, api.ErrNone, api.ErrFull, api.MaxRoom}
	if wanted := []api.Errno{0, 1, 2, 4, 5, 4096}; !slices.Equal(got, wanted) {
		t.Errorf("errors and limits are %v, want %v", got, wanted)
	}
}

// R1: an interface may hold what can't be held against anything: a swap from that is false, and changes nothing.
func TestValuesThatCannotBeCompared(t *testing.T) {
	type holder struct {
		n int
		x any
	}
	list := []any{1, 2}
	for _, x := range []any{list, map[string]int{"a": 1}, func() {}, holder{1, list}, [1]any{list}, struct{ list []int }{}} {
		c := cells.NewCell(x)
		for _, was := range []any{x, nil, 1, list, holder{1, nil}, holder{1, list}} {
			wantSwap(t, c, was, any(7), false)
			wantSwap(t, c, was, was, false)
			if _, n := c.Load(); n != 0 {
				t.Fatalf("a swap that is false has changed it %d times", n)
			}
		}
		wantSet(t, c, any(7), 1)
		wantSwap(t, c, x, any(8), false)
		wantSwap(t, c, any(7), x, true)
		wantSwap(t, c, any(7), any(8), false)
		wantSwap(t, c.Clone(), x, any(8), false)
		wantSet(t, c, any("a"), 3)
		wantSwap(t, c, any("a"), any("b"), true)
		wantCell(t, c, any("b"), 4)
	}
	h := cells.NewCell(holder{1, list})
	wantSwap(t, h, holder{1, list}, holder{}, false)
	wantSwap(t, h, holder{2, list}, holder{}, false)
	wantSet(t, h, holder{2, "a"}, 1)
	wantSwap(t, h, holder{2, "a"}, holder{}, true)
	wantCell(t, h, holder{}, 2)
}

// Values of unlike types in an interface are unlike, whatever they look like.
func TestTypesInAnInterface(t *testing.T) {
	c := cells.NewCell[any](1)
	for _, was := range []any{int64(1), uint(1), 1.0, "1", api.Errno(1), nil} {
		wantSwap(t, c, was, any(2), false)
	}
	wantSwap(t, c, any(1), nil, true)
	wantSwap(t, c, nil, any(3), true)
	wantCell(t, c, any(3), 2)
}

// Floats are held against each other by ==: what is no number is not even itself, and both noughts are one.
func TestFloats(t *testing.T) {
	nan := math.NaN()
	c := cells.NewCell(nan)
	wantSwap(t, c, nan, 1, false)
	wantSet(t, c, math.Copysign(0, -1), 1)
	wantSwap(t, c, 0, 1, true)
	wantSwap(t, c, nan, 2, false)
	wantCell(t, c, 1, 2)
}

// R3: an array that is handed in or answered is the cell's or the caller's alone.
func TestACellsValueIsACopy(t *testing.T) {
	x := [3]int{1, 2, 3}
	c := cells.NewCell(x)
	x[0] = 9
	wantCell(t, c, [3]int{1, 2, 3}, 0)
	got, _ := c.Load()
	got[1] = 9
	wantCell(t, c, [3]int{1, 2, 3}, 0)
	wantSet(t, c, x, 1)
	x[1] = 9
	wantCell(t, c, [3]int{9, 2, 3}, 1)
	is := [3]int{4, 5, 6}
	wantSwap(t, c, [3]int{9, 2, 3}, is, true)
	is[2] = 9
	wantCell(t, c, [3]int{4, 5, 6}, 2)
}

// R3: so is one that is put and taken, and a clone's.
func TestABoxesValuesAreCopies(t *testing.T) {
	b := newBox[[2]int](t, 3)
	x := [2]int{1, 2}
	wantPut(t, b, x, api.OK)
	x[0] = 9
	wantPut(t, b, x, api.OK)
	x[1] = 9
	c := b.Clone()
	got, _ := b.Take()
	got[0], got[1] = 7, 7
	wantAll(t, c, [2]int{1, 2}, [2]int{9, 2})
	wantAll(t, b, [2]int{9, 2})
}

// R3: what a value leads to is neither copied nor written to, in a clone either.
func TestWhatAValueLeadsToIsLeft(t *testing.T) {
	list := []int{1, 2, 3}
	b := filled(t, 2, list[:2], list[1:])
	c := b.Clone()
	for _, box := range []*cells.Box[[]int]{b, c} {
		for _, wanted := range [][]int{{1, 2}, {2, 3}} {
			x, e := box.Take()
			if e != api.OK || !slices.Equal(x, wanted) || &x[1] != &list[wanted[1]-1] {
				t.Errorf("Take() = %v, %d", x, e)
			}
		}
		wantPut(t, box, []int{7}, api.OK)
	}
	if !slices.Equal(list, []int{1, 2, 3}) {
		t.Errorf("what was handed in is %v", list)
	}
}

// What was taken, refused or changed for another value is not kept alive.
func TestNothingIsKeptAlive(t *testing.T) {
	type great [1000]int
	b, c := newBox[*great](t, 1), cells.NewCell[*great](nil)
	var gone []weak.Pointer[great]
	for range 4 {
		x := new(great)
		gone = append(gone, weak.Make(x))
		switch len(gone) {
		case 1:
			b.Put(x)
			b.Take()
			b.Put(nil)
		case 2:
			wantPut(t, b, x, api.ErrFull)
		case 3:
			c.Set(x)
			c.Set(nil)
		case 4:
			c.Swap(nil, x)
			c.Swap(x, nil)
		}
	}
	runtime.GC()
	for i, w := range gone {
		if w.Value() != nil {
			t.Errorf("value %d is kept", i)
		}
	}
	runtime.KeepAlive(b)
	runtime.KeepAlive(c)
}

// Values that a channel would not take may wait, too.
func TestGreatValues(t *testing.T) {
	type great [1 << 17]byte
	x, y := new(great), new(great)
	x[0], y[1<<17-1] = 1, 2
	b := filled(t, 2, *x, *y)
	if e := b.Put(*x); e != api.ErrFull {
		t.Errorf("Put = %d", e)
	}
	for _, box := range []*cells.Box[great]{b.Clone(), b} {
		for _, wanted := range []*great{x, y} {
			if got, e := box.Take(); got != *wanted || e != api.OK {
				t.Errorf("Take answered another value (%d)", e)
			}
		}
	}
	c := cells.NewCell(*x)
	if c.Swap(*y, *x) || !c.Swap(*x, *y) {
		t.Error("Swap")
	}
}

// The bound: a box takes memory for what waits in it, not for what may.
func TestARoomyBoxIsSmall(t *testing.T) {
	type great [1 << 15]byte
	var before, after runtime.MemStats
	runtime.ReadMemStats(&before)
	for range 20 {
		b := newBox[great](t, api.MaxRoom)
		wantCounts(t, b.Clone(), 0, api.MaxRoom)
	}
	runtime.ReadMemStats(&after)
	if got := after.TotalAlloc - before.TotalAlloc; got > 16<<20 {
		t.Errorf("40 empty boxes have taken %d bytes", got)
	}
}

// The bound: so many calls would not end in time if each one went through all that wait.
func TestManyCalls(t *testing.T) {
	b := newBox[int](t, api.MaxRoom)
	for i := range api.MaxRoom {
		wantPut(t, b, i, api.OK)
	}
	c := cells.NewCell(0)
	for i := range 500000 {
		wantTake(t, b, i)
		wantPut(t, b, i+api.MaxRoom, api.OK)
		wantCounts(t, b, api.MaxRoom, api.MaxRoom)
		wantSwap(t, c, i, i+1, true)
	}
	wantCell(t, c, 500000, 500000)
	wantTake(t, b.Clone(), 500000)
}

// R6: the same calls answer the same.
func TestSameAgain(t *testing.T) {
	run := func() []int {
		b, c := newBox[int](t, 5), cells.NewCell(0)
		var told []int
		for i := range 2000 {
			told = append(told, int(b.Put(i)))
			if i*i%7 < 3 {
				x, e := b.Take()
				told = append(told, x, int(e))
			}
			if x, n := c.Load(); c.Swap(i%3, i%4) || i%5 == 0 {
				told = append(told, x, int(n), int(c.Set(i%3)))
			}
			if i%100 == 0 {
				b, c = b.Clone(), c.Clone()
			}
		}
		return told
	}
	first := run()
	for range 5 {
		if !slices.Equal(first, run()) {
			t.Fatal("another answer the second time")
		}
	}
}
