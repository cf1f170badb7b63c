package sched_test

import (
	"math"
	"math/big"
	"slices"
	"testing"

	"cresset/api"
	"cresset/sched"
)

// task is a fiber of so many steps, that notes each of them.
type task struct {
	name  int
	left  int
	steps int
	diary *[]int // the names of all that did a step, in order; nil: none is kept
}

func (f *task) Step() bool {
	f.steps++
	f.left--
	if f.diary != nil {
		*f.diary = append(*f.diary, f.name)
	}
	return f.left <= 0
}

// odd is numbers of no fiber, whatever the scheduler.
var odd = []int{0, -1, -2, -64, api.MaxRoom + 1, 1 << 31, 1 << 32, math.MinInt, math.MaxInt}

func newSched(t *testing.T, room int) *sched.Sched {
	t.Helper()
	s, e := sched.New(room)
	if e != api.OK || s == nil {
		t.Fatalf("New(%d) = %v, %d", room, s, e)
	}
	return s
}

// spawned is a scheduler with a task for each number of steps, and their diary.
func spawned(t *testing.T, room int, lengths ...int) (*sched.Sched, []*task, *[]int) {
	t.Helper()
	s, diary := newSched(t, room), &[]int{}
	var tasks []*task
	for i, length := range lengths {
		f := &task{name: i + 1, left: length, diary: diary}
		wantSpawn(t, s, f, i+1)
		tasks = append(tasks, f)
	}
	return s, tasks, diary
}

func want(t *testing.T, what string, got, wanted api.Errno) {
	t.Helper()
	if got != wanted {
		t.Fatalf("%s answered %d, want %d", what, got, wanted)
	}
}

func wantSpawn(t *testing.T, s *sched.Sched, f sched.Fiber, wanted int) {
	t.Helper()
	if n, e := s.Spawn(f); n != wanted || e != api.OK {
		t.Fatalf("Spawn = %d, %d, want %d", n, e, wanted)
	}
}

func wantNoSpawn(t *testing.T, s *sched.Sched, f sched.Fiber, wanted api.Errno) {
	t.Helper()
	if n, e := s.Spawn(f); n != 0 || e != wanted {
		t.Fatalf("Spawn = %d, %d, want 0, %d", n, e, wanted)
	}
}

func wantStep(t *testing.T, s *sched.Sched, n int, wanted bool) {
	t.Helper()
	if over, e := s.Step(n); over != wanted || e != api.OK {
		t.Fatalf("Step(%d) = %v, %d, want %v", n, over, e, wanted)
	}
}

func wantNoStep(t *testing.T, s *sched.Sched, n int, wanted api.Errno) {
	t.Helper()
	if over, e := s.Step(n); over || e != wanted {
		t.Fatalf("Step(%d) = %v, %d, want false, %d", n, over, e, wanted)
	}
}

func wantPick(t *testing.T, s *sched.Sched, k, number int, wanted bool) {
	t.Helper()
	if n, over, e := s.Pick(k); n != number || over != wanted || e != api.OK {
		t.Fatalf("Pick(%d) = %d, %v, %d, want %d, %v", k, n, over, e, number, wanted)
	}
}

func wantNoPick(t *testing.T, s *sched.Sched, k int, wanted api.Errno) {
	t.Helper()
	if n, over, e := s.Pick(k); n != 0 || over || e != wanted {
		t.Fatalf("Pick(%d) = %d, %v, %d, want 0, false, %d", k, n, over, e, wanted)
	}
}

func wantRun(t *testing.T, s *sched.Sched, most, steps int, wanted bool) {
	t.Helper()
	if n, all := s.Run(most); n != steps || all != wanted {
		t.Fatalf("Run(%d) = %d, %v, want %d, %v", most, n, all, steps, wanted)
	}
}

// wantFinished takes all that have finished.
func wantFinished(t *testing.T, s *sched.Sched, wanted ...int) {
	t.Helper()
	for _, number := range wanted {
		if n, is := s.Finished(); n != number || !is {
			t.Fatalf("Finished() = %d, %v, want %d", n, is, number)
		}
	}
	for range 2 {
		if n, is := s.Finished(); n != 0 || is {
			t.Fatalf("Finished() = %d, %v, want none", n, is)
		}
	}
}

func alive(s *sched.Sched) []int {
	var list []int
	for n := range s.Alive() {
		list = append(list, n)
	}
	return list
}

// wantAlive asks who is alive, and of all that only they answer.
func wantAlive(t *testing.T, s *sched.Sched, wanted ...int) {
	t.Helper()
	for range 2 { // to look changes nothing
		if got := alive(s); !slices.Equal(got, wanted) || s.Count() != len(wanted) {
			t.Fatalf("Alive() tells %v, Count() = %d, want %v", got, s.Count(), wanted)
		}
	}
}

// wantSteps asks for the counts: in all, and of the fibers from 1 on.
func wantSteps(t *testing.T, s *sched.Sched, wanted ...int64) {
	t.Helper()
	all := int64(0)
	for i, steps := range wanted {
		if got := s.Of(i + 1); got != steps {
			t.Fatalf("Of(%d) = %d, want %d", i+1, got, steps)
		}
		all += steps
	}
	if got := s.Steps(); got != all {
		t.Fatalf("Steps() = %d, want %d", got, all)
	}
	for _, n := range append([]int{len(wanted) + 1, len(wanted) + 2}, odd...) {
		if got := s.Of(n); got != 0 {
			t.Fatalf("Of(%d) = %d, and there is no such fiber", n, got)
		}
	}
}

func wantDiary(t *testing.T, diary *[]int, wanted ...int) {
	t.Helper()
	if !slices.Equal(*diary, wanted) {
		t.Fatalf("steps were done by %v, want %v", *diary, wanted)
	}
}

// wantDead asks of a number all that only a fiber that is alive answers.
func wantDead(t *testing.T, s *sched.Sched, n int) {
	t.Helper()
	wantNoStep(t, s, n, api.ErrNone)
	want(t, "Drop of one that is not alive", s.Drop(n), api.ErrNone)
}

// The chapter's example 1.
func TestExample(t *testing.T) {
	s, _, diary := spawned(t, 2, 2, 2)
	wantPick(t, s, 0, 1, false)
	wantPick(t, s, 1, 2, false)
	wantPick(t, s, 4, 1, true)
	wantPick(t, s, -1, 2, true)
	wantFinished(t, s, 1, 2)
	wantDiary(t, diary, 1, 2, 1, 2)
}

// P12.1: from 1 to MaxRoom a room may be, and no other one.
func TestNew(t *testing.T) {
	for _, room := range []int{1, 2, 17, api.MaxRoom - 1, api.MaxRoom} {
		s := newSched(t, room)
		wantAlive(t, s)
		wantSteps(t, s)
		wantFinished(t, s)
		wantNoPick(t, s, 0, api.ErrNone)
		wantRun(t, s, 5, 0, true)
		for n := 1; n <= room; n++ {
			wantSpawn(t, s, &task{left: 1}, n)
		}
		wantNoSpawn(t, s, &task{left: 1}, api.ErrFull)
	}
	for _, room := range []int{0, -1, -api.MaxRoom, api.MaxRoom + 1, 1 << 32, math.MinInt, math.MaxInt} {
		if s, e := sched.New(room); s != nil || e != api.ErrArg {
			t.Errorf("New(%d) = %v, %d", room, s, e)
		}
	}
}

// P12.1: a fiber's number is one more than that of the one ahead of it, whatever became of that one; to spawn does no step.
func TestSpawn(t *testing.T) {
	s, diary := newSched(t, 3), &[]int{}
	wantSpawn(t, s, &task{name: 1, left: 1, diary: diary}, 1)
	wantAlive(t, s, 1)
	wantSpawn(t, s, &task{name: 2, left: 1, diary: diary}, 2)
	wantAlive(t, s, 1, 2)
	wantSteps(t, s, 0, 0)
	wantDiary(t, diary)
	want(t, "Drop", s.Drop(2), api.OK)
	wantSpawn(t, s, &task{name: 3, left: 1, diary: diary}, 3)
	wantStep(t, s, 3, true)
	wantSpawn(t, s, &task{name: 4, left: 1, diary: diary}, 4)
	wantFinished(t, s, 3)
	wantSpawn(t, s, &task{name: 5, left: 1, diary: diary}, 5)
	wantAlive(t, s, 1, 4, 5)
	wantSteps(t, s, 0, 0, 1, 0, 0)
	wantDiary(t, diary, 3)
}

// P12.1: no fiber is refused, and takes neither number nor room.
func TestSpawnOfNone(t *testing.T) {
	s := newSched(t, 1)
	wantNoSpawn(t, s, nil, api.ErrArg)
	wantAlive(t, s)
	wantSpawn(t, s, &task{left: 1}, 1)
	wantNoSpawn(t, s, nil, api.ErrArg)
	wantAlive(t, s, 1)
	wantSteps(t, s, 0)
}

// P12.1: room is taken by those that are alive and those that have finished and were not taken; what is refused takes no number, and does no step.
func TestSpawnWithoutRoom(t *testing.T) {
	s, _, _ := spawned(t, 3, 1, 5, 5)
	late := &task{left: 1}
	wantNoSpawn(t, s, late, api.ErrFull)
	wantStep(t, s, 1, true)
	wantNoSpawn(t, s, late, api.ErrFull) // 1 was not taken
	wantAlive(t, s, 2, 3)
	wantFinished(t, s, 1)
	wantSpawn(t, s, late, 4)
	wantNoSpawn(t, s, late, api.ErrFull)
	want(t, "Drop", s.Drop(3), api.OK)
	wantSpawn(t, s, &task{left: 1}, 5) // one that was dropped takes none
	wantNoSpawn(t, s, late, api.ErrFull)
	wantAlive(t, s, 2, 4, 5)
	wantRun(t, s, 100, 7, true)
	wantNoSpawn(t, s, late, api.ErrFull) // all have finished, none was taken
	wantFinished(t, s, 4, 5, 2)
	for n := 6; n <= 8; n++ {
		wantSpawn(t, s, &task{left: 1}, n)
	}
	wantNoSpawn(t, s, late, api.ErrFull)
	if late.steps != 1 {
		t.Errorf("%d steps of what was spawned once", late.steps)
	}
}

// P12.1: Step does one step of just that fiber, and none when it has finished.
func TestStep(t *testing.T) {
	s, tasks, diary := spawned(t, 4, 2, 1, 3)
	wantStep(t, s, 3, false)
	wantStep(t, s, 1, false)
	wantStep(t, s, 3, false)
	wantStep(t, s, 2, true)
	wantAlive(t, s, 1, 3)
	wantDead(t, s, 2)
	wantStep(t, s, 1, true)
	wantDead(t, s, 1)
	wantStep(t, s, 3, true)
	wantAlive(t, s)
	wantDiary(t, diary, 3, 1, 3, 2, 1, 3)
	wantSteps(t, s, 2, 1, 3)
	for n := range 5 {
		wantDead(t, s, n)
	}
	wantFinished(t, s, 2, 1, 3)
	for n := range 5 {
		wantDead(t, s, n)
	}
	wantDiary(t, diary, 3, 1, 3, 2, 1, 3)
	for i, f := range tasks {
		if f.left != 0 {
			t.Errorf("fiber %d was called again when it had finished", i+1)
		}
	}
}

// P12.1: a number of no fiber does nothing.
func TestStepOfNone(t *testing.T) {
	s, _, diary := spawned(t, 4, 2, 2, 2)
	want(t, "Drop", s.Drop(2), api.OK)
	for _, n := range append([]int{2, 4, 5}, odd...) {
		wantDead(t, s, n)
	}
	wantAlive(t, s, 1, 3)
	wantSteps(t, s, 0, 0, 0)
	wantDiary(t, diary)
	wantFinished(t, s)
}

// modulo is k modulo many by numbers without an end.
func modulo(k, many int) int {
	m := new(big.Int).Mod(big.NewInt(int64(k)), big.NewInt(int64(many))) // from 0 on, by Euclid
	return int(m.Int64())
}

// P12.1: Pick finds the place k modulo how many are alive, of k below 0 too.
func TestPick(t *testing.T) {
	places := []int{math.MinInt, math.MinInt + 1, math.MinInt + 2, math.MaxInt - 1, math.MaxInt, -1 << 32, 1 << 32, -1 << 31, 1<<31 - 1}
	for k := -25; k <= 25; k++ {
		places = append(places, k)
	}
	for many := 1; many <= 9; many++ {
		s := newSched(t, 30)
		var numbers []int
		for n := 1; n <= 3*many; n++ { // of three each the first has finished, the last was dropped
			wantSpawn(t, s, &task{left: map[bool]int{true: 1, false: 1000}[n%3 == 1]}, n)
			switch n % 3 {
			case 0:
				want(t, "Drop", s.Drop(n), api.OK)
			case 1:
				wantStep(t, s, n, true)
			case 2:
				numbers = append(numbers, n)
			}
		}
		for _, k := range places {
			wantPick(t, s, k, numbers[modulo(k, many)], false)
		}
		wantAlive(t, s, numbers...)
	}
}

// P12.1: the places are those among the ones that are alive then.
func TestPickWhileSomeFinish(t *testing.T) {
	s, _, diary := spawned(t, 5, 1, 2, 1, 2, 1)
	wantPick(t, s, 7, 3, true)   // of 1 2 3 4 5
	wantPick(t, s, 2, 4, false)  // of 1 2 4 5
	wantPick(t, s, -1, 5, true)  // of 1 2 4 5
	wantPick(t, s, -2, 2, false) // of 1 2 4
	wantPick(t, s, 3, 1, true)   // of 1 2 4
	wantPick(t, s, -3, 4, true)  // of 2 4
	wantPick(t, s, -77, 2, true) // of 2
	wantNoPick(t, s, 0, api.ErrNone)
	wantDiary(t, diary, 3, 4, 5, 2, 1, 4, 2)
	wantFinished(t, s, 3, 5, 1, 4, 2)
	wantSteps(t, s, 1, 2, 1, 2, 1)
}

// P12.1: of none alive nothing is picked, whatever has finished or was dropped.
func TestPickOfNone(t *testing.T) {
	s := newSched(t, 3)
	places := append([]int{1, 2, 3}, odd...)
	for _, k := range places {
		wantNoPick(t, s, k, api.ErrNone)
	}
	f := &task{left: 5}
	wantSpawn(t, s, &task{left: 1}, 1)
	wantSpawn(t, s, f, 2)
	wantPick(t, s, 0, 1, true)
	want(t, "Drop", s.Drop(2), api.OK)
	for _, k := range places {
		wantNoPick(t, s, k, api.ErrNone)
	}
	wantSteps(t, s, 1, 0)
	if f.steps != 0 {
		t.Error("one that was dropped did a step")
	}
}

// P12.2: Run goes round and round, the numbers rising, over those that are alive.
func TestRun(t *testing.T) {
	s, _, diary := spawned(t, 9, 2, 4, 1, 3)
	wantRun(t, s, 100, 10, true)
	wantDiary(t, diary, 1, 2, 3, 4, 1, 2, 4, 2, 4, 2)
	wantFinished(t, s, 3, 1, 4, 2)
	wantSteps(t, s, 2, 4, 1, 3)
	wantAlive(t, s)
	wantRun(t, s, 100, 0, true)
	wantSpawn(t, s, &task{left: 2}, 5)
	wantRun(t, s, 100, 2, true)
}

// P12.2: Run ends behind its last step, in the middle of a round too, and the next one begins at the lowest number.
func TestRunEndsBehindItsSteps(t *testing.T) {
	whole := []int{1, 2, 3, 4, 1, 2, 4, 2, 4, 2}
	for most := range 13 {
		s, _, diary := spawned(t, 4, 2, 4, 1, 3)
		steps := min(most, len(whole))
		wantRun(t, s, most, steps, most >= len(whole))
		wantDiary(t, diary, whole[:steps]...)
	}
	s, _, diary := spawned(t, 4, 9, 9, 1)
	wantRun(t, s, 2, 2, false)
	wantRun(t, s, 2, 2, false)
	wantRun(t, s, 1, 1, false)
	wantDiary(t, diary, 1, 2, 1, 2, 1)
	wantRun(t, s, 4, 4, false)
	wantDiary(t, diary, 1, 2, 1, 2, 1, 1, 2, 3, 1)
	wantAlive(t, s, 1, 2)
	wantSteps(t, s, 5, 3, 1)
}

// P12.2: no step, if most is below 1; whether none is alive is told still.
func TestRunOfNoSteps(t *testing.T) {
	s, _, diary := spawned(t, 2, 1, 1)
	empty := newSched(t, 2)
	for _, most := range []int{0, -1, -2, math.MinInt} {
		wantRun(t, s, most, 0, false)
		wantRun(t, empty, most, 0, true)
	}
	wantDiary(t, diary)
	wantRun(t, s, 2, 2, true)
	wantRun(t, s, math.MinInt, 0, true)
	for _, most := range []int{1, 2, math.MaxInt} {
		wantRun(t, s, most, 0, true)
		wantRun(t, empty, most, 0, true)
	}
}

// P12.2: as many steps as there are ints end when none is alive.
func TestRunOfMostSteps(t *testing.T) {
	s, _, _ := spawned(t, 3, 100, 7, 30)
	wantRun(t, s, math.MaxInt, 137, true)
	wantFinished(t, s, 2, 3, 1)
}

// P12.2: Finished tells them in the order in which they finished, each once.
func TestFinished(t *testing.T) {
	s, _, _ := spawned(t, 5, 2, 1, 3, 1)
	wantFinished(t, s)
	wantStep(t, s, 4, true)
	wantStep(t, s, 1, false)
	wantStep(t, s, 2, true)
	if n, is := s.Finished(); n != 4 || !is {
		t.Fatalf("Finished() = %d, %v", n, is)
	}
	wantPick(t, s, 0, 1, true)
	wantFinished(t, s, 2, 1)
	wantRun(t, s, 9, 3, true)
	wantFinished(t, s, 3)
	wantSteps(t, s, 2, 1, 3, 1)
}

// P12.2: one that was dropped is alive no more, and is not told as finished; what has finished can't be dropped.
func TestDrop(t *testing.T) {
	s, tasks, diary := spawned(t, 4, 2, 2, 2, 1)
	wantRun(t, s, 4, 4, false)
	want(t, "Drop", s.Drop(2), api.OK)
	wantAlive(t, s, 1, 3)
	wantDead(t, s, 2)
	wantDead(t, s, 4)
	wantPick(t, s, 1, 3, true)
	want(t, "Drop", s.Drop(1), api.OK)
	wantAlive(t, s)
	for n := range 6 {
		wantDead(t, s, n)
	}
	wantRun(t, s, 9, 0, true)
	wantFinished(t, s, 4, 3)
	wantSteps(t, s, 1, 1, 2, 1) // those of the dropped ones were done
	wantDiary(t, diary, 1, 2, 3, 4, 3)
	if tasks[0].steps != 1 || tasks[1].steps != 1 {
		t.Error("one that was dropped went on")
	}
}

// P12.2: in every order fibers may be dropped, and the others stay as they are.
func TestDropInEachOrder(t *testing.T) {
	var orders func(left, order []int)
	orders = func(left, order []int) {
		if len(left) > 0 {
			for i, n := range left {
				orders(slices.Delete(slices.Clone(left), i, i+1), append(slices.Clone(order), n))
			}
			return
		}
		s, _, _ := spawned(t, 5, 1, 1, 1, 1, 1)
		still := []int{1, 2, 3, 4, 5}
		for _, n := range order {
			want(t, "Drop", s.Drop(n), api.OK)
			still = slices.DeleteFunc(still, func(x int) bool { return x == n })
			wantAlive(t, s, still...)
		}
		wantFinished(t, s)
	}
	orders([]int{1, 2, 3, 4, 5}, nil)
}

// P12.3: Of tells of all that were ever spawned: alive, finished, taken, dropped.
func TestOf(t *testing.T) {
	s, _, _ := spawned(t, 4, 3, 3, 3, 9)
	wantSteps(t, s, 0, 0, 0, 0)
	wantRun(t, s, 9, 9, false)
	wantSteps(t, s, 3, 2, 2, 2)
	want(t, "Drop", s.Drop(2), api.OK)
	wantSteps(t, s, 3, 2, 2, 2)
	wantStep(t, s, 3, true)
	wantSteps(t, s, 3, 2, 3, 2)
	wantFinished(t, s, 1, 3)
	wantSteps(t, s, 3, 2, 3, 2)
	wantSpawn(t, s, &task{left: 4}, 5)
	wantRun(t, s, 3, 3, false)
	wantSteps(t, s, 3, 2, 3, 4, 1)
}
