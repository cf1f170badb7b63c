package sched

import "slices"

// round lets each fiber that is alive do a step, their numbers rising, but so many of them at most: how many did one.
func (s *Sched) round(most int) int {
	steps := 0
	for n := range s.Alive() {
		if steps == most {
			break
		}
		s.advance(n)
		steps++
	}
	s.strikeAll()
	return steps
}

// advance lets a fiber that is alive do a step: whether it has finished. Then there is room for it in the box, since those that are alive count when one is spawned. Its number is among those that are alive till its caller strikes it, so that a round can strike many at once.
func (s *Sched) advance(n int) bool {
	over := once(s.fibers[n])
	s.done[n-1]++
	s.steps++
	if over {
		delete(s.fibers, n)
		s.finished.Put(n)
	}
	return over
}

// once is what a fiber's Step answers. One that panics has not said that it has finished: it is alive, and its panic ends here.
func once(f Fiber) (over bool) {
	defer func() {
		if recover() != nil {
			over = false
		}
	}()
	return f.Step()
}

// strike takes the number of a fiber that is alive no more out of the list.
func (s *Sched) strike(n int) {
	if at, is := slices.BinarySearch(s.alive, n); is {
		s.alive = slices.Delete(s.alive, at, at+1)
	}
}

// strikeAll takes all such numbers out of it, if there are any: one by one they would move the list's end each time.
func (s *Sched) strikeAll() {
	if len(s.alive) == len(s.fibers) {
		return
	}
	s.alive = slices.DeleteFunc(s.alive, func(n int) bool {
		_, is := s.fibers[n]
		return !is
	})
}

// place is k modulo many; of a k below 0, too, it is from 0 on.
func place(k, many int) int {
	k %= many
	if k < 0 {
		k += many
	}
	return k
}
