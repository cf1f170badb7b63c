package arena_test

import (
	"math"
	"slices"
	"testing"

	"cresset/api"
	"cresset/arena"
)

func newArena[T any](t *testing.T, slots int) *arena.Arena[T] {
	t.Helper()
	a, e := arena.New[T](slots)
	if e != api.OK || a == nil {
		t.Fatalf("New(%d) = %v, %d", slots, a, e)
	}
	return a
}

func handle(slot int, gen int64) api.Handle { return api.Handle{Slot: slot, Gen: gen} }

// want says which call answered otherwise than it should.
func want(t *testing.T, what string, got, wanted api.Errno) {
	t.Helper()
	if got != wanted {
		t.Fatalf("%s answered %d, want %d", what, got, wanted)
	}
}

func wantPut[T any](t *testing.T, a *arena.Arena[T], x T, wanted api.Handle) {
	t.Helper()
	if h, e := a.Put(x); h != wanted || e != api.OK {
		t.Fatalf("Put(%v) = %v, %d, want %v", x, h, e, wanted)
	}
}

func wantFull[T any](t *testing.T, a *arena.Arena[T], x T) {
	t.Helper()
	if h, e := a.Put(x); h != (api.Handle{}) || e != api.ErrFull {
		t.Fatalf("Put(%v) = %v, %d, want ErrFull", x, h, e)
	}
}

func wantHas[T comparable](t *testing.T, a *arena.Arena[T], h api.Handle, wanted T) {
	t.Helper()
	if x, e := a.Get(h); x != wanted || e != api.OK {
		t.Fatalf("Get(%v) = %v, %d, want %v", h, x, e, wanted)
	}
}

// wantStale asks Get, Set and Free of a handle that is not good.
func wantStale[T comparable](t *testing.T, a *arena.Arena[T], h api.Handle, other T) {
	t.Helper()
	var zero T
	stale := a.Stale()
	if x, e := a.Get(h); x != zero || e != api.ErrStale {
		t.Fatalf("Get(%v) = %v, %d, want ErrStale", h, x, e)
	}
	want(t, "Set of a stale handle", a.Set(h, other), api.ErrStale)
	want(t, "Free of a stale handle", a.Free(h), api.ErrStale)
	if got := a.Stale(); got != stale+3 {
		t.Fatalf("Stale is %d behind three refused calls, was %d", got, stale)
	}
}

// item is what All tells of one slot.
type item[T any] struct {
	h api.Handle
	x T
}

func all[T any](a *arena.Arena[T]) []item[T] {
	var list []item[T]
	for h, x := range a.All() {
		list = append(list, item[T]{h, x})
	}
	return list
}

func wantAll[T comparable](t *testing.T, a *arena.Arena[T], wanted ...item[T]) {
	t.Helper()
	if got := all(a); !slices.Equal(got, wanted) {
		t.Fatalf("All tells %v, want %v", got, wanted)
	}
}

func wantCounts[T any](t *testing.T, a *arena.Arena[T], slots, live int, stale int64) {
	t.Helper()
	if a.Slots() != slots || a.Live() != live || a.Stale() != stale {
		t.Fatalf("Slots %d, Live %d, Stale %d, want %d, %d, %d", a.Slots(), a.Live(), a.Stale(), slots, live, stale)
	}
}

// The chapter's example 1.
func TestExample(t *testing.T) {
	a := newArena[string](t, 2)
	wantPut(t, a, "a", handle(0, 1))
	wantPut(t, a, "b", handle(1, 1))
	wantFull(t, a, "c")
	want(t, "Free of a's", a.Free(handle(0, 1)), api.OK)
	wantPut(t, a, "c", handle(0, 2))
	if x, e := a.Get(handle(0, 1)); x != "" || e != api.ErrStale {
		t.Errorf("Get of a's handle = %q, %d", x, e)
	}
	wantCounts(t, a, 2, 2, 1)
}

// P4.1: the edges of how many slots there may be; all of them are free.
func TestNewLimits(t *testing.T) {
	for _, n := range []int{0, -1, math.MinInt, 65537, math.MaxInt} {
		if a, e := arena.New[int](n); a != nil || e != api.ErrArg {
			t.Errorf("New(%d) = %v, %d", n, a, e)
		}
	}
	for _, n := range []int{1, 2, 63, 64, 65, 65535, 65536} {
		a := newArena[int](t, n)
		wantCounts(t, a, n, 0, 0)
		wantAll(t, a)
		for at := range n {
			wantPut(t, a, at*2, handle(at, 1))
		}
		wantFull(t, a, 7)
		wantCounts(t, a, n, n, 0)
		for at := range n {
			wantHas(t, a, handle(at, 1), at*2)
		}
	}
}

// P4.1: the lowest free slot is given, whatever the order in which they were taken back.
func TestPutGivesTheLowestFreeSlot(t *testing.T) {
	a := newArena[string](t, 8)
	for at := range 6 {
		wantPut(t, a, "x", handle(at, 1))
	}
	for _, at := range []int{4, 1, 5, 2} {
		want(t, "Free", a.Free(handle(at, 1)), api.OK)
	}
	wantPut(t, a, "p", handle(1, 2))
	want(t, "Free", a.Free(handle(0, 1)), api.OK)
	wantPut(t, a, "q", handle(0, 2))
	wantPut(t, a, "r", handle(2, 2))
	wantPut(t, a, "s", handle(4, 2))
	wantPut(t, a, "t", handle(5, 2))
	wantPut(t, a, "u", handle(6, 1))
	want(t, "Free", a.Free(handle(6, 1)), api.OK)
	wantPut(t, a, "v", handle(6, 2))
	wantPut(t, a, "w", handle(7, 1))
	wantFull(t, a, "z")
}

// P4.1: all orders in which five slots can be taken back.
func TestAllOrdersOfFree(t *testing.T) {
	var order []int
	var try func()
	try = func() {
		if len(order) < 5 {
			for at := range 5 {
				if !slices.Contains(order, at) {
					order = append(order, at)
					try()
					order = order[:len(order)-1]
				}
			}
		}
		a := newArena[int](t, 5)
		for at := range 5 {
			wantPut(t, a, at, handle(at, 1))
		}
		for _, at := range order {
			want(t, "Free", a.Free(handle(at, 1)), api.OK)
		}
		for _, at := range slices.Sorted(slices.Values(order)) {
			wantPut(t, a, at, handle(at, 2))
		}
		wantFull(t, a, 9)
	}
	try()
}

// P4.1: Gen is 1 the first time, and one more each time, of each slot on its own.
func TestGenRises(t *testing.T) {
	a := newArena[int](t, 2)
	wantPut(t, a, -1, handle(0, 1))
	for gen := int64(1); gen <= 300; gen++ {
		wantPut(t, a, int(gen), handle(1, gen))
		wantFull(t, a, 0)
		wantHas(t, a, handle(1, gen), int(gen))
		want(t, "Free", a.Free(handle(1, gen)), api.OK)
	}
	want(t, "Free", a.Free(handle(0, 1)), api.OK)
	wantPut(t, a, 1, handle(0, 2))
	wantPut(t, a, 2, handle(1, 301))
}

// P4.1: a Put that is refused, a Set and refused calls leave Gen as it is.
func TestGenCountsWhatIsGivenAlone(t *testing.T) {
	a := newArena[int](t, 1)
	wantPut(t, a, 1, handle(0, 1))
	for range 5 {
		wantFull(t, a, 2)
		want(t, "Set", a.Set(handle(0, 1), 3), api.OK)
		wantStale(t, a, handle(0, 2), 4)
	}
	want(t, "Free", a.Free(handle(0, 1)), api.OK)
	want(t, "Free again", a.Free(handle(0, 1)), api.ErrStale)
	wantPut(t, a, 1, handle(0, 2))
}

// P4.1: which handles are not good: slots that there are not, that were never given, that are free, other values of Gen.
func TestHandlesThatAreNotGood(t *testing.T) {
	a := newArena[string](t, 4)
	for range 3 {
		a.Put("x")
	}
	want(t, "Free", a.Free(handle(1, 1)), api.OK)
	a.Put("y")
	want(t, "Free", a.Free(handle(2, 1)), api.OK)
	before := all(a)
	for _, slot := range []int{-1, 0, 1, 2, 3, 4, 5, -65536, 65535, 65536, 1 << 32, math.MinInt, math.MaxInt} {
		for _, gen := range []int64{-1, 0, 1, 2, 3, -2, 1<<32 + 1, 1<<32 + 2, math.MinInt64, math.MaxInt64} {
			if h := handle(slot, gen); h == handle(0, 1) || h == handle(1, 2) {
				wantHas(t, a, h, []string{"x", "y"}[slot])
			} else {
				wantStale(t, a, h, "z")
			}
		}
	}
	wantAll(t, a, before...)
	wantPut(t, a, "p", handle(2, 2))
	wantPut(t, a, "q", handle(3, 1))
}

// P4.1: of an arena in which nothing was ever put no handle is good.
func TestNothingIsGoodAtFirst(t *testing.T) {
	a := newArena[int](t, 3)
	for slot := -1; slot <= 3; slot++ {
		for gen := int64(-1); gen <= 2; gen++ {
			wantStale(t, a, handle(slot, gen), 1)
		}
	}
	wantCounts(t, a, 3, 0, 60)
}

// P4.1: Set changes what the slot has, and no more; Get leaves it there.
func TestSet(t *testing.T) {
	a := newArena[string](t, 3)
	for _, x := range []string{"a", "b", "c"} {
		a.Put(x)
	}
	want(t, "Set", a.Set(handle(1, 1), "d"), api.OK)
	for range 3 {
		wantHas(t, a, handle(1, 1), "d")
	}
	want(t, "Set", a.Set(handle(1, 1), ""), api.OK)
	wantHas(t, a, handle(1, 1), "")
	wantAll(t, a, item[string]{handle(0, 1), "a"}, item[string]{handle(1, 1), ""}, item[string]{handle(2, 1), "c"})
	wantCounts(t, a, 3, 3, 0)
}

// P4.1: a slot that is given anew has the new value alone; with ErrStale comes the zero value, not the old one.
func TestFreeForgetsTheValue(t *testing.T) {
	a := newArena[*int](t, 1)
	n := 5
	wantPut(t, a, &n, handle(0, 1))
	want(t, "Free", a.Free(handle(0, 1)), api.OK)
	if x, e := a.Get(handle(0, 1)); x != nil || e != api.ErrStale {
		t.Errorf("Get of what was freed = %v, %d", x, e)
	}
	wantPut(t, a, nil, handle(0, 2))
	wantHas(t, a, handle(0, 2), nil)
	wantStale(t, a, handle(0, 1), &n)
}

// P4.1: values of other types.
func TestTypesOfValues(t *testing.T) {
	type pair struct {
		name string
		list [2]int
	}
	a := newArena[pair](t, 1)
	wantPut(t, a, pair{"x", [2]int{1, 2}}, handle(0, 1))
	wantHas(t, a, handle(0, 1), pair{"x", [2]int{1, 2}})
	want(t, "Free", a.Free(handle(0, 1)), api.OK)
	wantStale(t, a, handle(0, 1), pair{"y", [2]int{}})

	b := newArena[struct{}](t, 2)
	wantPut(t, b, struct{}{}, handle(0, 1))
	wantPut(t, b, struct{}{}, handle(1, 1))
	wantFull(t, b, struct{}{})
	wantCounts(t, b, 2, 2, 0)

	c := newArena[any](t, 2)
	wantPut(t, c, nil, handle(0, 1))
	wantHas(t, c, handle(0, 1), nil)
	wantPut(t, c, any("s"), handle(1, 1))
	wantHas(t, c, handle(1, 1), any("s"))

	d := newArena[func() int](t, 1)
	wantCounts(t, d, 1, 0, 0)
	h, _ := d.Put(func() int { return 8 })
	if f, e := d.Get(h); e != api.OK || f() != 8 {
		t.Error("a function is another one behind Put and Get")
	}
}

// P4.2: Live counts what is given; ErrFull and stale handles leave it.
func TestLive(t *testing.T) {
	a := newArena[int](t, 3)
	for i := range 3 {
		wantCounts(t, a, 3, i, 0)
		a.Put(i)
	}
	wantFull(t, a, 9)
	wantCounts(t, a, 3, 3, 0)
	want(t, "Free", a.Free(handle(2, 1)), api.OK)
	wantCounts(t, a, 3, 2, 0)
	want(t, "Free", a.Free(handle(2, 1)), api.ErrStale)
	wantCounts(t, a, 3, 2, 1)
	want(t, "Free", a.Free(handle(0, 1)), api.OK)
	want(t, "Free", a.Free(handle(1, 1)), api.OK)
	wantCounts(t, a, 3, 0, 1)
	wantAll(t, a)
}

// P4.2: Stale counts each of the calls Get, Set, Free that answered ErrStale, and nothing else.
func TestStaleCounts(t *testing.T) {
	a := newArena[int](t, 2)
	stale := func(wanted int64) {
		t.Helper()
		if got := a.Stale(); got != wanted {
			t.Fatalf("Stale is %d, want %d", got, wanted)
		}
	}
	h, _ := a.Put(1)
	a.Put(2)
	wantFull(t, a, 3)
	a.Get(h)
	a.Set(h, 4)
	all(a)
	a.Live()
	a.Slots()
	a.Clone()
	stale(0)
	a.Free(h)
	stale(0)
	a.Get(h)
	stale(1)
	a.Set(h, 5)
	stale(2)
	a.Free(h)
	stale(3)
	a.Get(api.Handle{})
	stale(4)
	a.Get(handle(-1, 1))
	a.Get(handle(2, 1))
	stale(6)
	for range 1000 {
		a.Set(h, 1)
	}
	stale(1006)
	stale(1006)
}

// P4.2: All tells the good handles alone, by slots rising.
func TestAllRises(t *testing.T) {
	a := newArena[int](t, 10)
	for i := range 10 {
		a.Put(i)
	}
	for _, at := range []int{9, 0, 3, 4} {
		a.Free(handle(at, 1))
	}
	a.Put(100)
	a.Put(101)
	a.Set(handle(7, 1), 70)
	wantAll(t, a, item[int]{handle(0, 2), 100}, item[int]{handle(1, 1), 1}, item[int]{handle(2, 1), 2},
		item[int]{handle(3, 2), 101}, item[int]{handle(5, 1), 5}, item[int]{handle(6, 1), 6},
		item[int]{handle(7, 1), 70}, item[int]{handle(8, 1), 8})
	wantCounts(t, a, 10, 8, 0)
}

// P4.2: a clone has all of the same: values, which slots are free, each slot's last Gen, Stale.
func TestCloneHasTheSame(t *testing.T) {
	a := newArena[string](t, 4)
	for _, x := range []string{"a", "b", "c"} {
		a.Put(x)
	}
	a.Free(handle(2, 1))
	a.Free(handle(0, 1))
	wantStale(t, a, handle(0, 1), "z")
	c := a.Clone()
	wantCounts(t, c, 4, 1, 3)
	wantAll(t, c, item[string]{handle(1, 1), "b"})
	wantStale(t, c, handle(2, 1), "z")
	wantPut(t, c, "d", handle(0, 2))
	wantPut(t, c, "e", handle(2, 2))
	wantPut(t, c, "f", handle(3, 1))
	wantFull(t, c, "g")
	wantCounts(t, c, 4, 4, 6)
	wantCounts(t, a, 4, 1, 3)
}

// P4.2: what is done to one of the two is not seen at the other one.
func TestCloneGoesItsOwnWay(t *testing.T) {
	for _, turn := range []bool{false, true} {
		a := newArena[string](t, 5)
		for _, x := range []string{"a", "b", "c"} {
			a.Put(x)
		}
		a.Free(handle(1, 1))
		c := a.Clone()
		if turn {
			a, c = c, a
		}
		before := all(a)
		want(t, "Set", c.Set(handle(0, 1), "x"), api.OK)
		wantAll(t, a, before...)
		want(t, "Free", c.Free(handle(0, 1)), api.OK)
		want(t, "Free", c.Free(handle(2, 1)), api.OK)
		wantStale(t, c, handle(0, 1), "z")
		for _, x := range []string{"p", "q", "r", "s", "t"} {
			c.Put(x)
		}
		wantFull(t, c, "u")
		wantAll(t, a, before...)
		wantCounts(t, a, 5, 2, 0)
		wantStale(t, a, handle(0, 2), "z")
		wantPut(t, a, "d", handle(1, 2))
		wantPut(t, a, "e", handle(3, 1))
		wantHas(t, c, handle(1, 2), "q")
		wantHas(t, c, handle(3, 1), "s")
		wantCounts(t, c, 5, 5, 3)
	}
}

// P4.2: values are cloned as they are: what a pointer points to is shared.
func TestCloneTakesValuesAsTheyAre(t *testing.T) {
	a := newArena[*int](t, 1)
	n := 1
	h, _ := a.Put(&n)
	wantHas(t, a.Clone(), h, &n)
	wantHas(t, a.Clone().Clone(), h, &n)
}

// P4.3: of all handles that were ever given just those that were not freed are good, at each place of a long run.
func TestFreedIsNeverGoodAgain(t *testing.T) {
	a := newArena[int](t, 4)
	var good, freed []api.Handle
	for i := range 400 {
		if i%3 == 2 || len(good) == 4 {
			at := i * 7 % len(good)
			want(t, "Free", a.Free(good[at]), api.OK)
			freed = append(freed, good[at])
			good = slices.Delete(good, at, at+1)
		} else {
			h, e := a.Put(i)
			if e != api.OK || slices.Contains(freed, h) || slices.Contains(good, h) {
				t.Fatalf("Put(%d) = %v, %d", i, h, e)
			}
			good = append(good, h)
		}
		for _, h := range freed {
			wantStale(t, a, h, -1)
		}
		for _, h := range good {
			if _, e := a.Get(h); e != api.OK {
				t.Fatalf("%v is good, and Get answered %d", h, e)
			}
		}
	}
}

// P4.3: good handles of unlike slots do not touch one another.
func TestSlotsDoNotTouch(t *testing.T) {
	const slots = 70
	for touched := range slots {
		a := newArena[int](t, slots)
		for at := range slots {
			wantPut(t, a, at, handle(at, 1))
		}
		want(t, "Set", a.Set(handle(touched, 1), 1000), api.OK)
		for at := range slots {
			if at != touched {
				wantHas(t, a, handle(at, 1), at)
			}
		}
		want(t, "Free", a.Free(handle(touched, 1)), api.OK)
		wantPut(t, a, 2000, handle(touched, 2))
		for at := range slots {
			if at != touched {
				wantHas(t, a, handle(at, 1), at)
			}
		}
	}
}

// P4.4: Put answers OK as long as Live is below Slots, and ErrFull else; a refused one changes nothing.
func TestFullJustWhenAllAreLive(t *testing.T) {
	for slots := 1; slots <= 6; slots++ {
		a := newArena[int](t, slots)
		for round := range 40 {
			for a.Live() < a.Slots() {
				live := a.Live()
				if _, e := a.Put(round); e != api.OK || a.Live() != live+1 {
					t.Fatalf("Put with %d of %d slots live: %d", live, slots, e)
				}
			}
			before := all(a)
			for range 3 {
				wantFull(t, a, -1)
			}
			wantAll(t, a, before...)
			wantCounts(t, a, slots, slots, 0)
			for i, it := range before {
				if (round>>(i%5))&1 == 0 {
					want(t, "Free", a.Free(it.h), api.OK)
				}
			}
		}
	}
}
