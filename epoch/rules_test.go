package epoch_test

import (
	"iter"
	"math"
	"slices"
	"testing"

	"cresset/api"
	"cresset/epoch"
)

// The calls that the chapter lists keep their signatures.
var (
	_ func() *epoch.Epoch                              = epoch.New
	_ func(*epoch.Epoch) int64                         = (*epoch.Epoch).Now
	_ func(*epoch.Epoch, int) api.Errno                = (*epoch.Epoch).Pin
	_ func(*epoch.Epoch, int) api.Errno                = (*epoch.Epoch).Unpin
	_ func(*epoch.Epoch, int) (int64, bool)            = (*epoch.Epoch).Pinned
	_ func(*epoch.Epoch, api.Retired) api.Errno        = (*epoch.Epoch).Retire
	_ func(*epoch.Epoch) ([]api.Retired, api.Errno)    = (*epoch.Epoch).Advance
	_ func(*epoch.Epoch) int                           = (*epoch.Epoch).Waiting
	_ func(*epoch.Epoch) iter.Seq2[int64, api.Retired] = (*epoch.Epoch).Limbo
	_ func(*epoch.Epoch) *epoch.Epoch                  = (*epoch.Epoch).Clone
)

func TestErrorsHaveTheirNumbers(t *testing.T) {
	got := []api.Errno{api.OK, api.ErrArg, api.ErrMade, api.ErrPinned, api.ErrLoose, api.ErrHeld, api.Sessions}
	if wanted := []api.Errno{0, 1, 2, 60, 61, 62, 16}; !slices.Equal(got, wanted) {
		t.Errorf("errors and limits are %v, want %v", got, wanted)
	}
}

// R3: the list that Advance answers is the caller's: neither what he writes to it nor what he puts behind it is seen, and what is retired later does not reach it.
func TestAnsweredListsAreTheCallers(t *testing.T) {
	e := epoch.New()
	retire(t, e, thing(1), thing(2), thing(3))
	before := e.Limbo()
	wantAdvance(t, e)
	retire(t, e, thing(4))
	c := e.Clone()
	list, _ := e.Advance()
	list[0] = thing(90)
	list = append(list, thing(91))
	retire(t, e, thing(5), thing(6), thing(7))
	wantAdvance(t, e, thing(4))
	retire(t, e, thing(8), thing(9))
	wantLimbo(t, e, item{3, thing(5)}, item{3, thing(6)}, item{3, thing(7)}, item{4, thing(8)}, item{4, thing(9)})
	if !slices.Equal(list, []api.Retired{thing(90), thing(2), thing(3), thing(91)}) {
		t.Errorf("what was answered is %v now", list)
	}
	var told []api.Retired
	for _, x := range before {
		told = append(told, x)
	}
	if !slices.Equal(told, []api.Retired{thing(1), thing(2), thing(3)}) {
		t.Errorf("Limbo tells %v, behind what was written to another list", told)
	}
	wantAdvance(t, c, thing(1), thing(2), thing(3))
}

// R3: what Limbo tells is a copy.
func TestLimboTellsCopies(t *testing.T) {
	e := epoch.New()
	retire(t, e, thing(1), thing(2))
	for _, x := range e.Limbo() {
		x.Kind, x.Handle.Slot = 99, 99
	}
	wantLimbo(t, e, item{1, thing(1)}, item{1, thing(2)})
}

// R3: Limbo tells what was there when it was asked for, whatever is done on the way or behind; it may stop, and be done again.
func TestLimboTellsWhatWasThere(t *testing.T) {
	e := epoch.New()
	retire(t, e, thing(1), thing(2))
	wantAdvance(t, e)
	retire(t, e, thing(3))
	seq := e.Limbo()
	wanted := []item{{1, thing(1)}, {1, thing(2)}, {2, thing(3)}}
	collect := func(each func()) []item {
		var list []item
		for at, x := range seq {
			list = append(list, item{at, x})
			each()
		}
		return list
	}
	if got := collect(func() { e.Retire(thing(50)); e.Advance() }); !slices.Equal(got, wanted) {
		t.Errorf("changed on the way: %v", got)
	}
	for at, x := range seq {
		if at != 1 || x != thing(1) {
			t.Errorf("the first one is %v of %d", x, at)
		}
		break
	}
	for range 3 {
		e.Advance()
		e.Retire(thing(60))
		if got := collect(func() {}); !slices.Equal(got, wanted) {
			t.Errorf("again: %v", got)
		}
	}
	none := epoch.New()
	seq = none.Limbo()
	none.Retire(thing(1))
	if got := collect(func() {}); got != nil {
		t.Errorf("asked for when nothing waited: %v", got)
	}
}

// R3: Limbo ends where its caller says so, at each place.
func TestLimboMayStopAnywhere(t *testing.T) {
	e := epoch.New()
	retire(t, e, thing(0), thing(1), thing(2))
	wantAdvance(t, e)
	retire(t, e, thing(3), thing(4))
	for stop := 1; stop <= 5; stop++ {
		n := 0
		for at, x := range e.Limbo() {
			if x != thing(n) || at != int64(1+n/3) {
				t.Fatalf("%v of %d told at the place %d", x, at, n)
			}
			if n++; n == stop {
				break
			}
		}
		if n != stop {
			t.Errorf("%d told, want %d", n, stop)
		}
	}
}

// R4: where nothing is answered, the list is empty or nil.
func TestNothingIsAnEmptyList(t *testing.T) {
	e := epoch.New()
	for range 4 {
		if l, f := e.Advance(); len(l) != 0 || f != api.OK {
			t.Errorf("Advance = %v, %d", l, f)
		}
	}
}

// R5: an epoch that no call made; ErrMade stands ahead of ErrArg, and nothing is kept there.
func TestAnEpochThatNoCallMade(t *testing.T) {
	for _, e := range []*epoch.Epoch{nil, {}} {
		for range 2 {
			for _, s := range []int{0, 1, 16, -1, 17, math.MinInt, math.MaxInt} {
				want(t, "Pin", e.Pin(s), api.ErrMade)
				want(t, "Unpin", e.Unpin(s), api.ErrMade)
				wantPinned(t, e, s, 0)
			}
			want(t, "Retire", e.Retire(thing(1)), api.ErrMade)
			want(t, "Retire", e.Retire(api.Retired{}), api.ErrMade)
			if l, f := e.Advance(); l != nil || f != api.ErrMade {
				t.Errorf("Advance = %v, %d", l, f)
			}
			if e.Now() != 0 || e.Clone() != nil {
				t.Errorf("Now is %d, Clone %v", e.Now(), e.Clone())
			}
			wantLimbo(t, e)
		}
	}
}

// R6: the same calls answer the same.
func TestSameAgain(t *testing.T) {
	run := func() []item {
		e := epoch.New()
		var list []item
		for i := range 3000 {
			e.Retire(thing(i))
			if i%3 == 0 {
				list = append(list, item{at: int64(e.Pin(i * i % 18))})
			}
			if i%2 == 0 {
				list = append(list, item{at: int64(e.Unpin(i * 7 % 18))})
			}
			if i%5 == 0 {
				free, f := e.Advance()
				list = append(list, item{at: int64(f)})
				for _, x := range free {
					list = append(list, item{x: x})
				}
			}
		}
		return append(list, limbo(e)...)
	}
	first := run()
	for range 10 {
		if again := run(); !slices.Equal(first, again) {
			t.Fatal("another answer the second time")
		}
	}
}

// The bound: so many calls would not end in time if each one went through all that waits.
func TestManyWait(t *testing.T) {
	const many = 200000
	e := epoch.New()
	for round := range 3 {
		for i := range many {
			if e.Retire(thing(i)) != api.OK || e.Waiting() != i+1 || e.Now() != int64(2*round+1) {
				t.Fatalf("Retire, with %d waiting", e.Waiting())
			}
		}
		if got := len(limbo(e.Clone())); got != many {
			t.Fatalf("Limbo of a clone tells %d", got)
		}
		wantAdvance(t, e)
		free, f := e.Advance()
		if f != api.OK || len(free) != many {
			t.Fatalf("Advance answered %d of %d, %d", len(free), many, f)
		}
		for i, x := range free {
			if x != thing(i) {
				t.Fatalf("%v at the place %d", x, i)
			}
		}
	}
	for range many {
		wantAdvance(t, e)
	}
}
