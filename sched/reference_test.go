package sched_test

import (
	"math/rand/v2"
	"slices"
	"testing"

	"cresset/api"
	"cresset/sched"
)

// What became of a fiber of the paper.
const (
	lives = iota
	waits // it has finished, and was not taken
	taken
	dropped
)

// sheet is a fiber of the paper.
type sheet struct {
	left  int
	steps int64
	state int
	at    int64 // how many steps had been done in all when it finished
}

// paper is the document's words on a scheduler, written down a second time as a list of all fibers that were ever spawned, so that what the package does can be held against them.
type paper struct {
	room   int
	fibers []*sheet // that of number 1 first
	steps  int64
	diary  []int
}

// in is the numbers of those in a state, rising.
func (p *paper) in(state int) []int {
	var list []int
	for i, f := range p.fibers {
		if f.state == state {
			list = append(list, i+1)
		}
	}
	return list
}

func (p *paper) lives(n int) bool { return slices.Contains(p.in(lives), n) }

func (p *paper) spawn(left int) (int, api.Errno) {
	if left == 0 {
		return 0, api.ErrArg
	}
	if len(p.in(lives))+len(p.in(waits)) >= p.room {
		return 0, api.ErrFull
	}
	p.fibers = append(p.fibers, &sheet{left: left})
	return len(p.fibers), api.OK
}

func (p *paper) step(n int) (bool, api.Errno) {
	if !p.lives(n) {
		return false, api.ErrNone
	}
	f := p.fibers[n-1]
	p.steps++
	p.diary = append(p.diary, n)
	f.steps++
	f.left--
	if f.left > 0 {
		return false, api.OK
	}
	f.state, f.at = waits, p.steps
	return true, api.OK
}

func (p *paper) pick(k int) (int, bool, api.Errno) {
	list := p.in(lives)
	if len(list) == 0 {
		return 0, false, api.ErrNone
	}
	for k < 0 {
		k += len(list)
	}
	for k >= len(list) {
		k -= len(list)
	}
	over, e := p.step(list[k])
	return list[k], over, e
}

func (p *paper) run(most int) (int, bool) {
	done := 0
	for len(p.in(lives)) > 0 && done < most {
		for n := 1; n <= len(p.fibers) && done < most; n++ {
			if p.lives(n) {
				p.step(n)
				done++
			}
		}
	}
	return done, len(p.in(lives)) == 0
}

func (p *paper) finished() (int, bool) {
	first := 0
	for _, n := range p.in(waits) {
		if first == 0 || p.fibers[n-1].at < p.fibers[first-1].at {
			first = n
		}
	}
	if first == 0 {
		return 0, false
	}
	p.fibers[first-1].state = taken
	return first, true
}

func (p *paper) drop(n int) api.Errno {
	if !p.lives(n) {
		return api.ErrNone
	}
	p.fibers[n-1].state = dropped
	return api.OK
}

// pair is a scheduler and its paper.
type pair struct {
	s     *sched.Sched
	p     *paper
	diary *[]int
}

func newPair(t *testing.T, room int) pair {
	t.Helper()
	return pair{newSched(t, room), &paper{room: room}, &[]int{}}
}

// compare holds all that can be asked without a change against the paper.
func (x pair) compare(t *testing.T) {
	t.Helper()
	wantAlive(t, x.s, x.p.in(lives)...)
	var steps []int64
	for _, f := range x.p.fibers {
		steps = append(steps, f.steps)
	}
	wantSteps(t, x.s, steps...)
	if x.s.Steps() != x.p.steps {
		t.Fatalf("Steps() = %d, want %d", x.s.Steps(), x.p.steps)
	}
	wantDiary(t, x.diary, x.p.diary...)
}

// The calls that change a scheduler, or may.
const (
	callSpawn = iota // arg: the fiber's steps; 0: no fiber
	callStep
	callPick
	callRun
	callFinished
	callDrop
)

type call struct{ what, arg int }

// do does one and the same call to both, and holds the answers against each other.
func (x pair) do(t *testing.T, c call) {
	t.Helper()
	switch c.what {
	case callSpawn:
		x.spawn(t, c.arg)
	case callStep:
		over, e := x.s.Step(c.arg)
		if wo, we := x.p.step(c.arg); over != wo || e != we {
			t.Fatalf("Step(%d) = %v, %d, want %v, %d", c.arg, over, e, wo, we)
		}
	case callPick:
		n, over, e := x.s.Pick(c.arg)
		if wn, wo, we := x.p.pick(c.arg); n != wn || over != wo || e != we {
			t.Fatalf("Pick(%d) = %d, %v, %d, want %d, %v, %d", c.arg, n, over, e, wn, wo, we)
		}
	case callRun:
		n, all := x.s.Run(c.arg)
		if wn, wa := x.p.run(c.arg); n != wn || all != wa {
			t.Fatalf("Run(%d) = %d, %v, want %d, %v", c.arg, n, all, wn, wa)
		}
	case callFinished:
		n, is := x.s.Finished()
		if wn, wi := x.p.finished(); n != wn || is != wi {
			t.Fatalf("Finished() = %d, %v, want %d, %v", n, is, wn, wi)
		}
	case callDrop:
		want(t, "Drop", x.s.Drop(c.arg), x.p.drop(c.arg))
	}
}

func (x pair) spawn(t *testing.T, steps int) {
	t.Helper()
	var f sched.Fiber
	if steps > 0 {
		f = &task{name: len(x.p.fibers) + 1, left: steps, diary: x.diary}
	}
	n, e := x.s.Spawn(f)
	if wn, we := x.p.spawn(steps); n != wn || e != we {
		t.Fatalf("Spawn of %d steps = %d, %d, want %d, %d", steps, n, e, wn, we)
	}
}

// P12.1 to P12.4: all short runs of calls on schedulers with little room.
func TestAllShortRuns(t *testing.T) {
	list := []call{{callSpawn, 0}, {callSpawn, 1}, {callSpawn, 2}, {callStep, 0}, {callStep, 1}, {callStep, 2}, {callPick, -1}, {callPick, 1}, {callRun, 0}, {callRun, 1}, {callRun, 3}, {callFinished, 0}, {callDrop, 1}, {callDrop, 2}}
	for room := 1; room <= 2; room++ {
		var run func(calls []call, left int)
		run = func(calls []call, left int) {
			x := newPair(t, room)
			for _, c := range calls {
				x.do(t, c)
			}
			x.compare(t)
			if left == 0 {
				return
			}
			for _, c := range list {
				run(append(calls, c), left-1)
			}
		}
		run(nil, 4)
		run([]call{{callSpawn, 1}, {callSpawn, 2}}, 3)
		run([]call{{callSpawn, 2}, {callSpawn, 2}, {callRun, 3}}, 3)
	}
}

// someCall is mostly one that can be done.
func someCall(r *rand.Rand, p *paper, spawns int) call {
	if r.IntN(20) < spawns {
		return call{callSpawn, r.IntN(6)}
	}
	c := call{what: 1 + r.IntN(callDrop)}
	switch c.what {
	case callPick:
		c.arg = r.IntN(60) - 30
	case callRun:
		c.arg = r.IntN(2*p.room+6) - 3
	case callDrop, callStep:
		c.arg = r.IntN(len(p.fibers)+3) - 1
		if list := p.in(lives); len(list) > 0 && r.IntN(3) > 0 {
			c.arg = list[r.IntN(len(list))]
		}
	}
	if c.what == callDrop && r.IntN(3) > 0 { // else few would come to their end
		c.what = callStep
	}
	return c
}

// P12.1 to P12.4: long runs of calls.
func TestAgainstThePaper(t *testing.T) {
	for seed := range uint64(120) {
		r := rand.New(rand.NewPCG(seed, 1212))
		x := newPair(t, 1+int(seed%13))
		for range 250 {
			x.do(t, someCall(r, x.p, 5+int(seed%9)))
			x.compare(t)
		}
	}
}
