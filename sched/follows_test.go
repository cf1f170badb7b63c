package sched_test

import (
	"math/rand/v2"
	"testing"

	"cresset/api"
	"cresset/sched"
)

// sum is the steps of all numbers that were ever given, as the scheduler and as the fibers themselves count them.
func sum(s *sched.Sched, tasks []*task) (told, done int64) {
	for i, f := range tasks {
		told += s.Of(i + 1)
		done += int64(f.steps)
	}
	return told, done
}

// P12.4: a step is done by each Step, Pick and Run that answers so, and by nothing else: neither by other calls nor by refused ones.
func TestNoStepButBySteps(t *testing.T) {
	for seed := range uint64(60) {
		r := rand.New(rand.NewPCG(seed, 12))
		s := newSched(t, 1+int(seed%8))
		var tasks []*task
		answered := int64(0)
		for range 300 {
			switch n := r.IntN(len(tasks)+2) - 1; r.IntN(9) {
			case 0, 1:
				f := &task{left: 1 + r.IntN(9)}
				if _, e := s.Spawn(f); e == api.OK {
					tasks = append(tasks, f)
				}
			case 2, 3:
				if _, e := s.Step(n); e == api.OK {
					answered++
				}
			case 4:
				if _, _, e := s.Pick(r.IntN(40) - 20); e == api.OK {
					answered++
				}
			case 5:
				steps, _ := s.Run(r.IntN(9) - 2)
				answered += int64(steps)
			case 6:
				s.Finished()
			case 7:
				s.Drop(n)
			case 8:
				alive(s)
				s.Spawn(nil)
				s.Run(-1)
			}
			told, done := sum(s, tasks)
			if told != answered || done != answered || s.Steps() != answered {
				t.Fatalf("%d steps were answered, %d were done, Of tells %d, Steps %d", answered, done, told, s.Steps())
			}
		}
	}
}

// P12.5: if each fiber finishes in its n-th step or earlier, Run of Count() times n steps finishes all.
func TestRunFinishesAll(t *testing.T) {
	for seed := range uint64(300) {
		r := rand.New(rand.NewPCG(seed, 125))
		s := newSched(t, 50)
		n, many := 1+r.IntN(20), r.IntN(51)
		total := 0
		for i := range many {
			length := 1 + r.IntN(n)
			wantSpawn(t, s, &task{left: length}, i+1)
			total += length
		}
		wantRun(t, s, s.Count()*n, total, true)
		wantAlive(t, s)
		for range many {
			if _, is := s.Finished(); !is {
				t.Fatal("one that has finished is not told")
			}
		}
		wantFinished(t, s)
	}
}

// P12.5: the bound is sharp: where all need n steps, with one less the last one has not finished.
func TestRunFinishesAllWithItsLastStep(t *testing.T) {
	for many := 1; many <= 12; many++ {
		for n := 1; n <= 12; n++ {
			s := newSched(t, many)
			for i := range many {
				wantSpawn(t, s, &task{left: n}, i+1)
			}
			wantRun(t, s, many*n-1, many*n-1, false)
			wantAlive(t, s, many)
			wantRun(t, s, 1, 1, true)
		}
	}
}
