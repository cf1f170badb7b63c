package table_test

import (
	"iter"
	"math"
	"runtime"
	"slices"
	"testing"

	"cresset/api"
	"cresset/table"
)

// The calls that the chapter lists keep their signatures.
var (
	_ func(int) (*table.Table, api.Errno)                                  = table.New
	_ func(*table.Table, api.Handle) (int, api.Errno)                      = (*table.Table).Alloc
	_ func(*table.Table, int) (api.Handle, api.Errno)                      = (*table.Table).Load
	_ func(t *table.Table, page int, was, is api.Handle) (bool, api.Errno) = (*table.Table).Swap
	_ func(*table.Table, int) api.Errno                                    = (*table.Table).Retire
	_ func(*table.Table, int) api.Errno                                    = (*table.Table).Release
	_ func(*table.Table, int) int                                          = (*table.Table).State
	_ func(*table.Table) int                                               = (*table.Table).Pages
	_ func(*table.Table) int                                               = (*table.Table).Live
	_ func(*table.Table) int                                               = (*table.Table).Gone
	_ func(*table.Table) int64                                             = (*table.Table).Missed
	_ func(*table.Table) iter.Seq2[int, api.Handle]                        = (*table.Table).All
	_ func(*table.Table) *table.Table                                      = (*table.Table).Clone
)

func TestNumbers(t *testing.T) {
	errors := []api.Errno{api.OK, api.ErrArg, api.ErrMade, api.ErrNone, api.ErrFull}
	if wanted := []api.Errno{0, 1, 2, 4, 5}; !slices.Equal(errors, wanted) {
		t.Errorf("errors are %v, want %v", errors, wanted)
	}
	others := []int{api.PageFree, api.PageLive, api.PageGone, api.MaxSlots}
	if wanted := []int{0, 1, 2, 65536}; !slices.Equal(others, wanted) {
		t.Errorf("states and the limit are %v, want %v", others, wanted)
	}
}

// R1: each call ends without a panic at all arguments, and what is refused changes nothing.
func TestAnyArguments(t *testing.T) {
	handles := []api.Handle{{}, x, y, {Slot: -1}, {Gen: -1}, {Slot: math.MinInt, Gen: math.MinInt64}, {Slot: math.MaxInt, Gen: math.MaxInt64}}
	pages := append([]int{0, 1, 2, 3, 4}, odd...)
	b := given(t, 4, x, y, z)
	retired(t, b, 1)
	released(t, b, 2)
	for _, page := range pages {
		for _, was := range handles {
			for _, is := range handles {
				c := b.Clone()
				done, e := c.Swap(page, was, is)
				if done != (e == api.OK && page == 0 && was == x) {
					t.Fatalf("Swap(%d, %v, %v) = %v, %d", page, was, is, done, e)
				}
				if !done && !slices.Equal(all(c), all(b)) {
					t.Fatalf("Swap(%d, %v, %v) = false changed %v", page, was, is, all(c))
				}
			}
		}
		c := b.Clone()
		c.Load(page)
		c.State(page)
		if c.Retire(page) == api.OK != (page == 0) || c.Release(page) == api.OK != (page == 0 || page == 1) {
			t.Fatalf("Retire or Release of %d", page)
		}
		wantWhole(t, c)
	}
	for _, h := range handles[1:] {
		c := b.Clone()
		wantAlloc(t, c, h, 2)
		wantLoad(t, c, 2, h)
	}
}

// R2: where several errors apply: a table that no call made, then a page that is not live, then a zero handle.
func TestWhichErrorComesFirst(t *testing.T) {
	b := given(t, 1, x)
	wantNoAlloc(t, b, api.Handle{}, api.ErrArg)
	wantNoSwap(t, b, 1, x, api.Handle{}, api.ErrNone)
	retired(t, b, 0)
	wantNoSwap(t, b, 0, x, api.Handle{}, api.ErrNone)
	wantNoSwap(t, nil, 0, x, api.Handle{}, api.ErrMade)
	wantNoAlloc(t, nil, api.Handle{}, api.ErrMade)
}

// R3: All tells what was there when it was asked for, whatever is done on the way or behind; it may stop, and be done again.
func TestAllTellsWhatWasThere(t *testing.T) {
	b := given(t, 6, x, y, z, x)
	retired(t, b, 1)
	seq := b.All()
	collect := func() []row {
		var list []row
		for page, h := range seq {
			list = append(list, row{page, h})
		}
		return list
	}
	wanted := []row{{0, x}, {2, z}, {3, x}}
	var got []row
	for page, h := range seq {
		got = append(got, row{page, h})
		b.Alloc(y)
		b.Swap(3, x, y)
		b.Retire(2)
		b.Release(2)
		b.Retire(page)
		b.Release(1)
	}
	if !slices.Equal(got, wanted) {
		t.Errorf("changed on the way: %v", got)
	}
	for page, h := range seq {
		if page != 0 || h != x {
			t.Errorf("the first one is %d, %v", page, h)
		}
		break
	}
	if got := collect(); !slices.Equal(got, wanted) {
		t.Errorf("again: %v", got)
	}
	for page := range b.All() {
		b.Retire(page)
	}
	wantAll(t, b)
	if got := collect(); !slices.Equal(got, wanted) {
		t.Errorf("behind all: %v", got)
	}
	none := newTable(t, 1)
	seq = none.All()
	wantAlloc(t, none, x, 0)
	if got := collect(); len(got) != 0 {
		t.Errorf("of an empty table: %v", got)
	}
}

// R3: All ends where its caller says so, at each place.
func TestAllMayStopAnywhere(t *testing.T) {
	b := given(t, 5, x, y, z, x, y)
	for stop := 1; stop <= 5; stop++ {
		n := 0
		for page := range b.All() {
			if page != n {
				t.Fatalf("%d told at the place %d", page, n)
			}
			if n++; n == stop {
				break
			}
		}
		if n != stop {
			t.Errorf("%d told, want %d", n, stop)
		}
	}
}

// R5, P10.2: a table that no call made; nothing makes it one, and nothing is counted there.
func TestATableThatNoCallMade(t *testing.T) {
	for _, b := range []*table.Table{nil, {}} {
		for range 2 {
			for _, h := range []api.Handle{{}, x, {Slot: math.MaxInt, Gen: math.MinInt64}} {
				wantNoAlloc(t, b, h, api.ErrMade)
				for _, page := range append([]int{0, 1}, odd...) {
					wantNoLoad(t, b, page, api.ErrMade)
					wantNoSwap(t, b, page, x, h, api.ErrMade)
					wantNoSwap(t, b, page, h, y, api.ErrMade)
					want(t, "Retire", b.Retire(page), api.ErrMade)
					want(t, "Release", b.Release(page), api.ErrMade)
					if b.State(page) != 0 {
						t.Errorf("State(%d) = %d", page, b.State(page))
					}
				}
			}
			wantCounts(t, b, 0, 0, 0, 0)
			wantAll(t, b)
			if b.Clone() != nil {
				t.Error("Clone is not nil")
			}
		}
	}
}

// R6: the same calls answer the same.
func TestSameAgain(t *testing.T) {
	run := func() []row {
		b := newTable(t, 300)
		for i := range 3000 {
			b.Alloc(api.Handle{Slot: i, Gen: 1})
			b.Swap(i*7%300, api.Handle{Slot: i - 1, Gen: 1}, x)
			b.Swap(i%300, x, y)
			b.Retire(i * i % 300)
			b.Release(i * 11 % 300)
			if i%500 == 0 {
				b = b.Clone()
			}
		}
		return append(all(b), row{page: b.Gone()}, row{page: int(b.Missed())})
	}
	first := run()
	for range 5 {
		if again := run(); !slices.Equal(first, again) {
			t.Fatal("another answer the second time")
		}
	}
}

// The bound: so many calls would not end in time if each one went through all pages.
func TestAGreatTable(t *testing.T) {
	b := newTable(t, api.MaxSlots)
	for round := range int64(3) {
		h := api.Handle{Slot: 1, Gen: round}
		for page := range api.MaxSlots {
			wantAlloc(t, b, h, page)
		}
		wantNoAlloc(t, b, h, api.ErrFull)
		for i := range api.MaxSlots {
			retired(t, b, i*40503%api.MaxSlots) // each page once, far from the last one
		}
		wantCounts(t, b, api.MaxSlots, 0, api.MaxSlots, 0)
		wantNoAlloc(t, b, h, api.ErrFull)
		for i := range api.MaxSlots {
			want(t, "Release", b.Release(i*25111%api.MaxSlots), api.OK)
		}
		wantCounts(t, b, api.MaxSlots, 0, 0, 0)
	}
	for page := range api.MaxSlots {
		wantAlloc(t, b, x, page)
	}
	last := api.MaxSlots - 1
	for i := range int64(200000) {
		wantSwap(t, b, 17, y, z, false)
		wantSwap(t, b, last, x, x, true)
		released(t, b, last)
		wantAlloc(t, b, x, last)
		wantCounts(t, b, api.MaxSlots, api.MaxSlots, 0, i+1)
	}
	if got := len(all(b.Clone())); got != api.MaxSlots {
		t.Errorf("All of a clone tells %d", got)
	}
}

// The bound: a table takes memory for the pages that were given, not for those that may be.
func TestARoomyTableIsSmall(t *testing.T) {
	var before, after runtime.MemStats
	runtime.ReadMemStats(&before)
	for range 100 {
		b := given(t, api.MaxSlots, x, y)
		wantCounts(t, b.Clone(), api.MaxSlots, 2, 0, 0)
	}
	runtime.ReadMemStats(&after)
	if got := after.TotalAlloc - before.TotalAlloc; got > 8<<20 {
		t.Errorf("200 tables with two pages have taken %d bytes", got)
	}
}
