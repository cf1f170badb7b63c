package cells_test

import (
	"testing"

	"cresset/api"
	"cresset/cells"
)

// wantCell says that a cell has another value or another count.
func wantCell[T comparable](t *testing.T, c *cells.Cell[T], wanted T, times int64) {
	t.Helper()
	for range 2 { // to look changes nothing
		if x, n := c.Load(); x != wanted || n != times {
			t.Fatalf("Load() = %v, %d, want %v, %d", x, n, wanted, times)
		}
	}
}

func wantSwap[T comparable](t *testing.T, c *cells.Cell[T], was, is T, wanted bool) {
	t.Helper()
	if got := c.Swap(was, is); got != wanted {
		t.Fatalf("Swap(%v, %v) = %v", was, is, got)
	}
}

func wantSet[T comparable](t *testing.T, c *cells.Cell[T], x T, times int64) {
	t.Helper()
	if n := c.Set(x); n != times {
		t.Fatalf("Set(%v) = %d, want %d", x, n, times)
	}
}

// The chapter's example 1, its first half.
func TestExampleOfACell(t *testing.T) {
	c := cells.NewCell(1)
	wantSwap(t, c, 1, 2, true)
	wantSwap(t, c, 1, 3, false)
	wantCell(t, c, 2, 1)
}

// P8.1: a new cell has its value, and was changed 0 times.
func TestNewCell(t *testing.T) {
	wantCell(t, cells.NewCell("a"), "a", 0)
	wantCell(t, cells.NewCell(api.Handle{Slot: 3, Gen: 4}), api.Handle{Slot: 3, Gen: 4}, 0)
	wantCell(t, cells.NewCell[any](nil), nil, 0)
	wantCell(t, cells.NewCell(struct{}{}), struct{}{}, 0)
}

// P8.1: a cell whose value is the zero value was made, and is changed as others are.
func TestACellOfTheZeroValue(t *testing.T) {
	c := cells.NewCell(0)
	wantCell(t, c, 0, 0)
	wantSwap(t, c, 1, 2, false)
	wantSwap(t, c, 0, 0, true)
	wantCell(t, c, 0, 1)
	wantSwap(t, c, 0, 5, true)
	wantSwap(t, c, 5, 0, true)
	wantSet(t, c, 0, 4)
	wantCell(t, c.Clone(), 0, 4)
}

// P8.1: a swap from another value changes nothing, however often it is asked.
func TestSwapFromAnotherValue(t *testing.T) {
	c := cells.NewCell("a")
	for _, was := range []string{"", "A", "aa", "b"} {
		wantSwap(t, c, was, "z", false)
		wantSwap(t, c, was, "a", false)
		wantSwap(t, c, was, was, false)
		wantCell(t, c, "a", 0)
	}
	wantSwap(t, c, "a", "z", true)
	wantCell(t, c, "z", 1)
}

// P8.1: a swap of a value for itself is done, and counts.
func TestSwapForItself(t *testing.T) {
	c := cells.NewCell("a")
	for n := int64(1); n <= 5; n++ {
		wantSwap(t, c, "a", "a", true)
		wantCell(t, c, "a", n)
	}
}

// P8.1: Set changes it whatever it is, and counts even where nothing is another one behind it.
func TestSet(t *testing.T) {
	c := cells.NewCell(7)
	wantSet(t, c, 8, 1)
	wantCell(t, c, 8, 1)
	wantSet(t, c, 8, 2)
	wantCell(t, c, 8, 2)
	wantSwap(t, c, 7, 9, false)
	wantSwap(t, c, 8, 9, true)
	wantSet(t, c, 7, 4)
	wantCell(t, c, 7, 4)
}

// P8.1: values are held against each other as a whole.
func TestWholeValues(t *testing.T) {
	type whole struct {
		h    api.Handle
		list [2]string
	}
	x := whole{api.Handle{Slot: 1, Gen: 2}, [2]string{"a", "b"}}
	c := cells.NewCell(x)
	for _, change := range []func(*whole){
		func(y *whole) { y.h.Slot = 2 },
		func(y *whole) { y.h.Gen = 1 },
		func(y *whole) { y.list[0] = "b" },
		func(y *whole) { y.list[1] = "" },
	} {
		y := x
		change(&y)
		wantSwap(t, c, y, whole{}, false)
		wantCell(t, c, x, 0)
		wantSwap(t, c.Clone(), x, y, true)
	}
	wantSwap(t, c, x, whole{}, true)
	wantCell(t, c, whole{}, 1)
}

// P8.1: pointers are the same if they point to one thing, not to like ones.
func TestPointers(t *testing.T) {
	a, b := new(int), new(int)
	c := cells.NewCell(a)
	wantSwap(t, c, b, nil, false)
	wantSwap(t, c, a, b, true)
	wantCell(t, c, b, 1)
	wantSwap(t, c, b, nil, true)
	wantSwap(t, c, nil, a, true)
	wantCell(t, c, a, 3)
}

// P8.1: a clone has the same value and count; what is done to one of the two is not seen at the other one.
func TestCloneOfACell(t *testing.T) {
	for _, turn := range []bool{false, true} {
		c := cells.NewCell("a")
		wantSet(t, c, "b", 1)
		wantSwap(t, c, "b", "c", true)
		d := c.Clone()
		if turn {
			c, d = d, c
		}
		wantCell(t, c, "c", 2)
		wantCell(t, d, "c", 2)
		wantSwap(t, c, "c", "d", true)
		wantCell(t, d, "c", 2)
		wantSet(t, c, "e", 4)
		wantCell(t, d, "c", 2)
		wantSwap(t, d, "c", "x", true)
		wantCell(t, c, "e", 4)
		wantCell(t, d, "x", 3)
	}
}

// P8.1, R5: a cell that no call made answers the zero value and 0, false, 0, nil; a Set does not make it one.
func TestACellThatNoCallMade(t *testing.T) {
	for _, c := range []*cells.Cell[string]{nil, {}} {
		for range 2 {
			wantCell(t, c, "", 0)
			wantSwap(t, c, "", "a", false)
			wantSwap(t, c, "", "", false)
			wantSwap(t, c, "a", "", false)
			wantSet(t, c, "a", 0)
			wantSet(t, c, "", 0)
			wantCell(t, c, "", 0)
			if c.Clone() != nil {
				t.Error("Clone is not nil")
			}
		}
	}
}

// P8.3: of several swaps from the same value one is done, and the first that is asked.
func TestOneOfSeveralSwaps(t *testing.T) {
	const most = 20
	for asked := 1; asked <= most; asked++ {
		c := cells.NewCell(0)
		for round := range 5 {
			_, before := c.Load()
			done := 0
			for i := range asked {
				is := (round+1)*most + i
				if c.Swap(round*most, is) {
					done++
					if i != 0 {
						t.Fatalf("swap %d of %d was done", i, asked)
					}
				}
			}
			if done != 1 {
				t.Fatalf("%d of %d swaps were done", done, asked)
			}
			wantCell(t, c, (round+1)*most, before+1)
		}
	}
}

// P8.3: swaps of a value for itself are all done, till one swaps it for another one.
func TestSeveralSwapsForItself(t *testing.T) {
	c := cells.NewCell(1)
	for range 3 {
		wantSwap(t, c, 1, 1, true)
	}
	wantSwap(t, c, 1, 2, true)
	wantSwap(t, c, 1, 1, false)
	wantSwap(t, c, 1, 3, false)
	wantCell(t, c, 2, 4)
}

// P8.3: a value that comes back can be swapped again: the count tells that it was away.
func TestAValueThatComesBack(t *testing.T) {
	c := cells.NewCell("a")
	_, before := c.Load()
	wantSwap(t, c, "a", "b", true)
	wantSwap(t, c, "b", "a", true)
	if x, n := c.Load(); x != "a" || n == before {
		t.Errorf("Load() = %q, %d", x, n)
	}
	wantSwap(t, c, "a", "c", true)
	wantCell(t, c, "c", 3)
}
