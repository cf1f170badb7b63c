package sched_test

import (
	"errors"
	"iter"
	"math"
	"runtime"
	"slices"
	"testing"
	"weak"

	"cresset/api"
	"cresset/sched"
)

// The calls that the chapter lists keep their signatures.
var (
	_ func(int) (*sched.Sched, api.Errno)              = sched.New
	_ func(*sched.Sched, sched.Fiber) (int, api.Errno) = (*sched.Sched).Spawn
	_ func(*sched.Sched, int) (bool, api.Errno)        = (*sched.Sched).Step
	_ func(*sched.Sched, int) (int, bool, api.Errno)   = (*sched.Sched).Pick
	_ func(*sched.Sched, int) (int, bool)              = (*sched.Sched).Run
	_ func(*sched.Sched) (int, bool)                   = (*sched.Sched).Finished
	_ func(*sched.Sched, int) api.Errno                = (*sched.Sched).Drop
	_ func(*sched.Sched) iter.Seq[int]                 = (*sched.Sched).Alive
	_ func(*sched.Sched) int                           = (*sched.Sched).Count
	_ func(*sched.Sched) int64                         = (*sched.Sched).Steps
	_ func(*sched.Sched, int) int64                    = (*sched.Sched).Of
	_ sched.Fiber                                      = interface{ Step() bool }(nil)
)

func TestNumbers(t *testing.T) {
	got := []api.Errno{api.OK, api.ErrArg, api.ErrMade, api.ErrNone, api.ErrFull}
	if wanted := []api.Errno{0, 1, 2, 4, 5}; !slices.Equal(got, wanted) {
		t.Errorf("errors are %v, want %v", got, wanted)
	}
	if api.MaxRoom != 4096 {
		t.Errorf("MaxRoom is %d", api.MaxRoom)
	}
}

// does is a fiber that is a function: no two of that type can be held against each other.
type does func() bool

func (f does) Step() bool { return f() }

// flags is a fiber that is a value, and so is always the same.
type flags [2]bool

func (f flags) Step() bool { return f[1] }

// R1: each call ends without a panic at all arguments, and what is refused changes nothing.
func TestAnyArguments(t *testing.T) {
	for _, n := range append([]int{1, 2, 3, 4}, odd...) {
		s, _, diary := spawned(t, 4, 1, 2, 2)
		wantStep(t, s, 1, true)
		lives := n == 2 || n == 3
		if _, e := s.Step(n); (e == api.OK) != lives {
			t.Fatalf("Step(%d) answered %d", n, e)
		}
		if e := s.Drop(n); (e == api.OK) != lives {
			t.Fatalf("Drop(%d) answered %d", n, e)
		}
		if !lives {
			wantAlive(t, s, 2, 3)
			wantSteps(t, s, 1, 0, 0)
			wantDiary(t, diary, 1)
		}
		s.Of(n)
		s.Pick(n)
		s.Run(n)
		s.Finished()
	}
}

// R1: a fiber may be of any type, of one that can't be held against others, too.
func TestFibersOfAnyType(t *testing.T) {
	s := newSched(t, 5)
	calls := 0
	count := does(func() bool { calls++; return calls == 3 })
	wantSpawn(t, s, count, 1)
	wantSpawn(t, s, flags{false, true}, 2)
	wantSpawn(t, s, flags{true, false}, 3)
	wantSpawn(t, s, flags{}, 4)
	wantRun(t, s, 4, 4, false)
	wantFinished(t, s, 2)
	wantRun(t, s, 6, 6, false)
	wantFinished(t, s, 1)
	wantAlive(t, s, 3, 4)
	wantSteps(t, s, 3, 1, 3, 3)
}

// R1: a fiber that panics lets no panic out: it has done a step, and has not said that it has finished.
func TestAFiberThatPanics(t *testing.T) {
	var none *task
	var list []int
	for _, f := range []sched.Fiber{
		none,
		does(nil),
		does(func() bool { panic("a") }),
		does(func() bool { panic(errors.New("b")) }),
		does(func() bool { panic(nil) }),
		does(func() bool { return list[3] == 1 }),
	} {
		s := newSched(t, 3)
		other := &task{left: 9}
		wantSpawn(t, s, f, 1)
		wantSpawn(t, s, other, 2)
		wantStep(t, s, 1, false)
		wantPick(t, s, 0, 1, false)
		wantRun(t, s, 5, 5, false)
		wantSteps(t, s, 5, 2)
		wantAlive(t, s, 1, 2)
		wantFinished(t, s)
		want(t, "Drop", s.Drop(1), api.OK)
		wantRun(t, s, 99, 7, true)
		wantFinished(t, s, 2)
		if other.steps != 9 {
			t.Errorf("the other one did %d steps", other.steps)
		}
	}
}

// R1: one that panics at times goes on, and may finish.
func TestAFiberThatPanicsAtTimes(t *testing.T) {
	s := newSched(t, 1)
	calls := 0
	wantSpawn(t, s, does(func() bool {
		calls++
		if calls%2 == 1 {
			panic(calls)
		}
		return calls == 6
	}), 1)
	wantRun(t, s, 99, 6, true)
	wantFinished(t, s, 1)
	wantSteps(t, s, 6)
}

// R2: where several errors apply: a scheduler that no call made, then no fiber, then no room.
func TestWhichErrorComesFirst(t *testing.T) {
	s, _, _ := spawned(t, 1, 1)
	wantNoSpawn(t, s, nil, api.ErrArg)
	wantNoSpawn(t, s, &task{left: 1}, api.ErrFull)
	wantNoSpawn(t, nil, nil, api.ErrMade)
	wantNoSpawn(t, &sched.Sched{}, nil, api.ErrMade)
}

// R3: Alive tells who was alive when it was asked for, whatever is done on the way or behind; it may stop, and be done again.
func TestAliveTellsWhoWasAlive(t *testing.T) {
	s, _, _ := spawned(t, 9, 9, 1, 9, 9, 9)
	wantStep(t, s, 2, true)
	seq := s.Alive()
	collect := func() []int { return slices.Collect(seq) }
	wanted := []int{1, 3, 4, 5}
	var got []int
	for n := range seq {
		got = append(got, n)
		s.Drop(4)
		s.Run(4)
		s.Spawn(&task{left: 3})
		s.Drop(n)
	}
	if !slices.Equal(got, wanted) {
		t.Errorf("changed on the way: %v", got)
	}
	for n := range seq {
		if n != 1 {
			t.Errorf("the first one is %d", n)
		}
		break
	}
	if got := collect(); !slices.Equal(got, wanted) {
		t.Errorf("again: %v", got)
	}
	for n := range s.Alive() {
		want(t, "Drop", s.Drop(n), api.OK)
	}
	wantAlive(t, s)
	if got := collect(); !slices.Equal(got, wanted) {
		t.Errorf("behind all: %v", got)
	}
	seq = newSched(t, 1).Alive()
	if got := collect(); len(got) != 0 {
		t.Errorf("of an empty scheduler: %v", got)
	}
}

// R3: Alive ends where its caller says so, at each place.
func TestAliveMayStopAnywhere(t *testing.T) {
	s, _, _ := spawned(t, 5, 1, 1, 1, 1, 1)
	for stop := 1; stop <= 5; stop++ {
		told := 0
		for n := range s.Alive() {
			if told++; n != told {
				t.Fatalf("%d told at the place %d", n, told)
			}
			if told == stop {
				break
			}
		}
		if told != stop {
			t.Errorf("%d told, want %d", told, stop)
		}
	}
}

// R3: fibers of two schedulers have nothing to do with each other, though both may have one and the same.
func TestSchedulersGoTheirOwnWays(t *testing.T) {
	a, b := newSched(t, 2), newSched(t, 2)
	f := &task{left: 5}
	wantSpawn(t, a, f, 1)
	wantSpawn(t, b, &task{left: 1}, 1)
	wantSpawn(t, b, f, 2)
	wantRun(t, b, 4, 4, false)
	wantSteps(t, a, 0)
	wantSteps(t, b, 1, 3)
	wantStep(t, a, 1, false)
	wantPick(t, a, 0, 1, true)
	wantAlive(t, a)
	wantAlive(t, b, 2)
	wantFinished(t, a, 1)
	wantFinished(t, b, 1)
}

// R5, P12.3: a scheduler that no call made; nothing makes it one, and no fiber goes on there.
func TestASchedulerThatNoCallMade(t *testing.T) {
	f := &task{left: 1}
	for _, s := range []*sched.Sched{nil, {}} {
		for range 2 {
			wantNoSpawn(t, s, f, api.ErrMade)
			wantNoSpawn(t, s, nil, api.ErrMade)
			for _, n := range append([]int{1, 2}, odd...) {
				wantNoStep(t, s, n, api.ErrMade)
				wantNoPick(t, s, n, api.ErrMade)
				wantRun(t, s, n, 0, false)
				want(t, "Drop", s.Drop(n), api.ErrMade)
			}
			wantFinished(t, s)
			wantAlive(t, s)
			wantSteps(t, s)
		}
	}
	if f.steps != 0 {
		t.Errorf("%d steps were done", f.steps)
	}
}

// R6: the same calls answer the same.
func TestSameAgain(t *testing.T) {
	run := func() []int {
		s, diary := newSched(t, 100), &[]int{}
		for i := range 3000 {
			s.Spawn(&task{name: i, left: 1 + i%7, diary: diary})
			s.Pick(i*i - 1000)
			s.Step(i / 2)
			s.Drop(i * 7 % 3000)
			if i%100 == 0 {
				s.Run(150)
			}
			if n, is := s.Finished(); is {
				*diary = append(*diary, -n)
			}
		}
		return append(*diary, alive(s)...)
	}
	first := run()
	for range 5 {
		if again := run(); !slices.Equal(first, again) {
			t.Fatal("another answer the second time")
		}
	}
}

// The bound: a scheduler that is full, with many calls, of which the longest runs would not end in time if a step went through all fibers.
func TestAGreatScheduler(t *testing.T) {
	s := newSched(t, api.MaxRoom)
	for n := 1; n <= api.MaxRoom; n++ {
		wantSpawn(t, s, &task{left: 500 + n%2}, n)
	}
	wantRun(t, s, 499*api.MaxRoom, 499*api.MaxRoom, false)
	wantRun(t, s, api.MaxRoom, api.MaxRoom, false)
	wantRun(t, s, math.MaxInt, api.MaxRoom/2, true)
	wantNoSpawn(t, s, &task{}, api.ErrFull)
	for i := range api.MaxRoom {
		wanted := 2 * (i + 1) // those with even numbers in the last round but one, the others behind them
		if wanted > api.MaxRoom {
			wanted -= api.MaxRoom + 1
		}
		if n, is := s.Finished(); n != wanted || !is {
			t.Fatalf("Finished() = %d, %v, want %d", n, is, wanted)
		}
	}
}

// The bound: one after the other finishes or is dropped among many that stay.
func TestManyComeAndGo(t *testing.T) {
	s := newSched(t, api.MaxRoom)
	still := &task{left: math.MaxInt}
	for n := 1; n < api.MaxRoom; n++ {
		wantSpawn(t, s, still, n)
	}
	for n := api.MaxRoom; n < 100000; n++ {
		wantSpawn(t, s, &task{left: 2}, n)
		wantPick(t, s, -1, n, false)
		if n%2 == 0 {
			want(t, "Drop", s.Drop(n), api.OK)
			continue
		}
		wantStep(t, s, n, true)
		wantFinished(t, s, n)
	}
	if s.Count() != api.MaxRoom-1 || still.steps != 0 || s.Of(99999) != 2 || s.Of(99998) != 1 {
		t.Errorf("%d are alive, those that stay did %d steps", s.Count(), still.steps)
	}
}

// R3: a fiber that has finished, or was dropped, is kept no more.
func TestWhatIsDoneIsLetGo(t *testing.T) {
	s := newSched(t, 3)
	var gone []weak.Pointer[task]
	for n := 1; n <= 3; n++ {
		f := &task{left: 1}
		gone = append(gone, weak.Make(f))
		wantSpawn(t, s, f, n)
	}
	wantStep(t, s, 1, true)
	want(t, "Drop", s.Drop(2), api.OK)
	runtime.GC()
	if gone[0].Value() != nil || gone[1].Value() != nil {
		t.Error("a fiber that is alive no more is kept")
	}
	if gone[2].Value() == nil {
		t.Error("a fiber that is alive is not kept")
	}
	wantRun(t, s, 9, 1, true)
	runtime.GC()
	if gone[2].Value() != nil {
		t.Error("a fiber that has finished in a run is kept")
	}
	wantFinished(t, s, 1, 3)
}
