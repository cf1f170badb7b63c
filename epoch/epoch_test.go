package epoch_test

import (
	"math"
	"slices"
	"testing"

	"cresset/api"
	"cresset/epoch"
)

// thing is something to retire, another one for each n.
func thing(n int) api.Retired {
	return api.Retired{Kind: n%4 + 1, Handle: api.Handle{Slot: n, Gen: int64(n)*3 + 1}}
}

// want says which call answered otherwise than it should.
func want(t *testing.T, what string, got, wanted api.Errno) {
	t.Helper()
	if got != wanted {
		t.Fatalf("%s answered %d, want %d", what, got, wanted)
	}
}

func pin(t *testing.T, e *epoch.Epoch, s int) {
	t.Helper()
	want(t, "Pin", e.Pin(s), api.OK)
}

func unpin(t *testing.T, e *epoch.Epoch, s int) {
	t.Helper()
	want(t, "Unpin", e.Unpin(s), api.OK)
}

func retire(t *testing.T, e *epoch.Epoch, list ...api.Retired) {
	t.Helper()
	for _, x := range list {
		want(t, "Retire", e.Retire(x), api.OK)
	}
}

// wantAdvance asks for an Advance that nobody holds back.
func wantAdvance(t *testing.T, e *epoch.Epoch, wanted ...api.Retired) {
	t.Helper()
	now := e.Now()
	if l, f := e.Advance(); f != api.OK || !slices.Equal(l, wanted) {
		t.Fatalf("Advance from %d = %v, %d, want %v", now, l, f, wanted)
	}
	if e.Now() != now+1 {
		t.Fatalf("Now is %d behind an Advance from %d", e.Now(), now)
	}
}

// wantHeld asks for one that is held back, and changes nothing.
func wantHeld(t *testing.T, e *epoch.Epoch) {
	t.Helper()
	now, list := e.Now(), limbo(e)
	if l, f := e.Advance(); f != api.ErrHeld || l != nil {
		t.Fatalf("Advance from %d = %v, %d, want ErrHeld", now, l, f)
	}
	if e.Now() != now {
		t.Fatalf("Now is %d behind a refused Advance from %d", e.Now(), now)
	}
	wantLimbo(t, e, list...)
}

// item is what Limbo tells of one that waits.
type item struct {
	at int64
	x  api.Retired
}

func limbo(e *epoch.Epoch) []item {
	var list []item
	for at, x := range e.Limbo() {
		list = append(list, item{at, x})
	}
	return list
}

func wantLimbo(t *testing.T, e *epoch.Epoch, wanted ...item) {
	t.Helper()
	if got := limbo(e); !slices.Equal(got, wanted) {
		t.Fatalf("Limbo tells %v, want %v", got, wanted)
	}
	if e.Waiting() != len(wanted) {
		t.Fatalf("Waiting is %d, want %d", e.Waiting(), len(wanted))
	}
}

func wantPinned(t *testing.T, e *epoch.Epoch, s int, wanted int64) {
	t.Helper()
	if at, ok := e.Pinned(s); at != wanted || ok != (wanted != 0) {
		t.Fatalf("Pinned(%d) = %d, %v, want %d", s, at, ok, wanted)
	}
}

// The chapter's example 1.
func TestExample(t *testing.T) {
	e := epoch.New()
	x, y := thing(1), thing(2)
	retire(t, e, x)
	wantAdvance(t, e)
	wantAdvance(t, e, x)
	pin(t, e, 0)
	retire(t, e, y)
	wantAdvance(t, e)
	wantHeld(t, e)
	unpin(t, e, 0)
	wantAdvance(t, e, y)
	wantLimbo(t, e)
}

// P6.1: a new one is at epoch 1, nobody is pinned, nothing waits.
func TestNew(t *testing.T) {
	e := epoch.New()
	if e == nil || e.Now() != 1 {
		t.Fatalf("New is at epoch %d", e.Now())
	}
	for s := -2; s <= 20; s++ {
		wantPinned(t, e, s, 0)
	}
	wantLimbo(t, e)
	for s := 0; s <= 16; s++ {
		want(t, "Unpin", e.Unpin(s), api.ErrLoose)
	}
	if epoch.New() == e {
		t.Error("two of New are one")
	}
}

// P6.1: which numbers are sessions; the store's own is one of them.
func TestSessions(t *testing.T) {
	e := epoch.New()
	for _, s := range []int{-1, -2, -17, 17, 18, 64, 1 << 32, 1<<32 + 1, -1 << 32, math.MinInt, math.MaxInt} {
		want(t, "Pin", e.Pin(s), api.ErrArg)
		want(t, "Unpin", e.Unpin(s), api.ErrArg)
		wantPinned(t, e, s, 0)
	}
	for s := range 17 {
		wantPinned(t, e, s, 0)
	}
	for s := range 17 {
		pin(t, e, s)
		for other := range 17 {
			wantPinned(t, e, other, map[bool]int64{true: 1, false: 0}[other <= s])
		}
	}
	for _, s := range []int{-1, 17} {
		want(t, "Pin", e.Pin(s), api.ErrArg)
		want(t, "Unpin", e.Unpin(s), api.ErrArg)
		wantPinned(t, e, s, 0)
	}
	for s := range 17 {
		unpin(t, e, s)
		for other := range 17 {
			wantPinned(t, e, other, map[bool]int64{true: 1, false: 0}[other > s])
		}
	}
}

// P6.1: one that is pinned can't be pinned anew, and stays pinned to the epoch to which it was; one that is not can't be unpinned.
func TestPinAndUnpin(t *testing.T) {
	for s := range 17 {
		e := epoch.New()
		want(t, "Unpin", e.Unpin(s), api.ErrLoose)
		pin(t, e, s)
		want(t, "Pin again", e.Pin(s), api.ErrPinned)
		wantPinned(t, e, s, 1)
		wantAdvance(t, e)
		want(t, "Pin again", e.Pin(s), api.ErrPinned)
		wantPinned(t, e, s, 1)
		wantHeld(t, e)
		wantPinned(t, e, s, 1)
		unpin(t, e, s)
		wantPinned(t, e, s, 0)
		want(t, "Unpin again", e.Unpin(s), api.ErrLoose)
		pin(t, e, s)
		wantPinned(t, e, s, 2)
		unpin(t, e, s)
		want(t, "Unpin again", e.Unpin(s), api.ErrLoose)
		wantPinned(t, e, s, 0)
	}
}

// P6.1: each session is pinned to what Now was then.
func TestPinnedToNow(t *testing.T) {
	e := epoch.New()
	for now := int64(1); now <= 40; now++ {
		s := int(now*5) % 17
		pin(t, e, s)
		wantPinned(t, e, s, now)
		if now > 1 {
			unpin(t, e, int((now-1)*5)%17)
		}
		wantAdvance(t, e)
		wantPinned(t, e, s, now)
	}
}

// P6.2: Now rises by one with each Advance that is not held back, and by nothing else.
func TestNowRises(t *testing.T) {
	e := epoch.New()
	for now := int64(1); now <= 300; now++ {
		retire(t, e, thing(1))
		pin(t, e, 3)
		e.Pinned(3)
		e.Waiting()
		limbo(e)
		e.Clone().Advance()
		unpin(t, e, 3)
		if e.Now() != now {
			t.Fatalf("Now is %d, want %d", e.Now(), now)
		}
		if _, f := e.Advance(); f != api.OK {
			t.Fatalf("Advance from %d answered %d", now, f)
		}
	}
}

// P6.2: what is retired in an epoch is answered by the second Advance behind it, in the order in which it was retired.
func TestAdvanceAnswersInOrder(t *testing.T) {
	e := epoch.New()
	var last, now []api.Retired
	next := 0
	for round := range 60 {
		now = nil
		for range round * 7 % 5 {
			x := thing((next * 31) % 17) // in no order of their own, some of them twice
			next++
			now = append(now, x)
			retire(t, e, x)
		}
		wantAdvance(t, e, last...)
		last = now
	}
	wantAdvance(t, e, now...)
	wantAdvance(t, e)
	wantAdvance(t, e)
}

// P6.2: what is retired between a refused Advance and the next one stands in the epoch that is.
func TestRetireBehindARefusedAdvance(t *testing.T) {
	e := epoch.New()
	pin(t, e, 16)
	retire(t, e, thing(1))
	wantAdvance(t, e)
	retire(t, e, thing(2))
	wantHeld(t, e)
	retire(t, e, thing(3))
	wantHeld(t, e)
	wantLimbo(t, e, item{1, thing(1)}, item{2, thing(2)}, item{2, thing(3)})
	unpin(t, e, 16)
	retire(t, e, thing(4))
	wantAdvance(t, e, thing(1))
	wantLimbo(t, e, item{2, thing(2)}, item{2, thing(3)}, item{2, thing(4)})
	wantAdvance(t, e, thing(2), thing(3), thing(4))
	wantLimbo(t, e)
}

// P6.2: Limbo tells what waits in the order in which it was retired, over the edge of an epoch, at each place of the three lists.
func TestLimboOrder(t *testing.T) {
	e := epoch.New()
	var wait []item
	for now := int64(1); now <= 12; now++ {
		for i := range 3 {
			x := thing(100 - int(now)*3 - i)
			retire(t, e, x)
			wait = append(wait, item{now, x})
			wantLimbo(t, e, wait...)
		}
		var free []api.Retired
		for len(wait) > 0 && wait[0].at == now-1 {
			free = append(free, wait[0].x)
			wait = wait[1:]
		}
		wantAdvance(t, e, free...)
		wantLimbo(t, e, wait...)
	}
}

// P6.2: anything may be retired, and the same thing more than once; it is answered as it is.
func TestWhateverIsRetired(t *testing.T) {
	e := epoch.New()
	list := []api.Retired{
		{},
		{},
		{Kind: math.MinInt, Handle: api.Handle{Slot: math.MaxInt, Gen: math.MinInt64}},
		{Kind: math.MaxInt, Handle: api.Handle{Slot: math.MinInt, Gen: math.MaxInt64}},
		{Kind: 1, Handle: api.Handle{Slot: 4, Gen: 1}},
		{Kind: 1, Handle: api.Handle{Slot: 4, Gen: 1}},
		{Kind: -1},
		{Handle: api.Handle{Slot: -1, Gen: -1}},
		{},
	}
	retire(t, e, list...)
	if e.Waiting() != len(list) {
		t.Errorf("Waiting is %d, want %d", e.Waiting(), len(list))
	}
	wantAdvance(t, e)
	retire(t, e, list[2])
	wantAdvance(t, e, list...)
	wantAdvance(t, e, list[2])
}

// P6.2: a session that is pinned to Now does not hold the epoch back, one that is pinned below does, whichever one it is and whoever else is pinned.
func TestWhoHoldsTheEpochBack(t *testing.T) {
	for old := range 17 {
		for young := range 17 {
			if old == young {
				continue
			}
			e := epoch.New()
			retire(t, e, thing(7))
			pin(t, e, old)
			wantAdvance(t, e)
			pin(t, e, young)
			wantHeld(t, e)
			wantHeld(t, e)
			wantPinned(t, e, old, 1)
			wantPinned(t, e, young, 2)
			unpin(t, e, old)
			wantAdvance(t, e, thing(7))
			wantHeld(t, e)
			unpin(t, e, young)
			wantAdvance(t, e)
		}
	}
}

// P6.2: all that are pinned below must go, not one of them alone.
func TestAllThatHoldMustGo(t *testing.T) {
	e := epoch.New()
	for s := range 17 {
		pin(t, e, s)
	}
	wantAdvance(t, e)
	for s := range 17 {
		wantHeld(t, e)
		unpin(t, e, (s*5+3)%17)
	}
	wantAdvance(t, e)
}

// P6.2: a session that is pinned anew holds nothing back by its earlier pin.
func TestPinnedAnew(t *testing.T) {
	e := epoch.New()
	pin(t, e, 4)
	wantAdvance(t, e)
	for range 20 {
		wantHeld(t, e)
		unpin(t, e, 4)
		pin(t, e, 4)
		wantPinned(t, e, 4, e.Now())
		wantAdvance(t, e)
	}
}

// P6.2: a clone has all of the same: the epoch, who is pinned, what waits.
func TestCloneHasTheSame(t *testing.T) {
	for start := range 3 {
		e := epoch.New()
		for range start {
			wantAdvance(t, e)
		}
		now := int64(1 + start)
		pin(t, e, 0)
		retire(t, e, thing(1), thing(2))
		wantAdvance(t, e)
		pin(t, e, 16)
		retire(t, e, thing(3))
		c := e.Clone()
		if c == e || c.Now() != now+1 {
			t.Fatalf("the clone is at %d, want %d", c.Now(), now+1)
		}
		wantPinned(t, c, 0, now)
		wantPinned(t, c, 16, now+1)
		for s := 1; s < 16; s++ {
			wantPinned(t, c, s, 0)
		}
		wantLimbo(t, c, item{now, thing(1)}, item{now, thing(2)}, item{now + 1, thing(3)})
		wantHeld(t, c)
		unpin(t, c, 0)
		wantAdvance(t, c, thing(1), thing(2))
		unpin(t, c, 16)
		wantAdvance(t, c, thing(3))
		wantAdvance(t, c)
	}
}

// P6.2: what is done to one of the two is not seen at the other one.
func TestCloneGoesItsOwnWay(t *testing.T) {
	for _, turn := range []bool{false, true} {
		e := epoch.New()
		retire(t, e, thing(1))
		pin(t, e, 2)
		wantAdvance(t, e)
		retire(t, e, thing(2), thing(3), thing(4)) // a list with room behind its end
		pin(t, e, 5)
		c := e.Clone()
		if turn {
			e, c = c, e
		}
		retire(t, c, thing(5))
		pin(t, c, 7)
		unpin(t, c, 5)
		unpin(t, c, 2)
		wantAdvance(t, c, thing(1))
		unpin(t, c, 7)
		if e.Now() != 2 || c.Now() != 3 {
			t.Fatalf("they are at %d and %d", e.Now(), c.Now())
		}
		wantPinned(t, e, 2, 1)
		wantPinned(t, e, 5, 2)
		wantPinned(t, e, 7, 0)
		wantLimbo(t, e, item{1, thing(1)}, item{2, thing(2)}, item{2, thing(3)}, item{2, thing(4)})
		retire(t, e, thing(6))
		wantLimbo(t, c, item{2, thing(2)}, item{2, thing(3)}, item{2, thing(4)}, item{2, thing(5)})
		wantAdvance(t, c, thing(2), thing(3), thing(4), thing(5))
		wantHeld(t, e)
		unpin(t, e, 2)
		wantAdvance(t, e, thing(1))
		wantLimbo(t, e, item{2, thing(2)}, item{2, thing(3)}, item{2, thing(4)}, item{2, thing(6)})
		wantLimbo(t, c)
	}
}

// P6.5: with nobody pinned two Advances answer all that waits, each of it once.
func TestTwoAdvancesAnswerAll(t *testing.T) {
	for first := range 5 {
		for second := range 5 {
			for start := range 4 {
				e := epoch.New()
				for range start {
					wantAdvance(t, e)
				}
				var old, young []api.Retired
				for i := range first {
					old = append(old, thing(i))
				}
				for i := range second {
					young = append(young, thing(10+i))
				}
				retire(t, e, old...)
				wantAdvance(t, e)
				retire(t, e, young...)
				wantAdvance(t, e, old...)
				wantAdvance(t, e, young...)
				wantLimbo(t, e)
				wantAdvance(t, e)
				wantAdvance(t, e)
			}
		}
	}
}

// P6.5: one that is pinned to Now lets one Advance by, and no other one.
func TestAPinHoldsBackByOne(t *testing.T) {
	for s := range 17 {
		e := epoch.New()
		for range s {
			wantAdvance(t, e)
		}
		pin(t, e, s)
		retire(t, e, thing(s))
		wantAdvance(t, e)
		for range 5 {
			wantHeld(t, e)
		}
		unpin(t, e, s)
		wantAdvance(t, e, thing(s))
	}
}
