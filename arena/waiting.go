package arena

import "container/heap"

// waiting is the numbers of slots that were taken back: a heap, the lowest ahead.
type waiting []int

// add puts a number among those that wait.
func (w *waiting) add(n int) { heap.Push(w, n) }

// take takes the lowest one away; there must be one.
func (w *waiting) take() int {
	n := (*w)[0] // ahead of Pop, which would tell it as a value of any type
	heap.Pop(w)
	return n
}

func (w waiting) Len() int { return len(w) }

func (w waiting) Less(i, j int) bool { return w[i] < w[j] }

func (w waiting) Swap(i, j int) { w[i], w[j] = w[j], w[i] }

// Push is asked by package heap alone.
func (w *waiting) Push(x any) {
	if n, ok := x.(int); ok {
		*w = append(*w, n)
	}
}

// Pop is asked by package heap alone.
func (w *waiting) Pop() any {
	last := len(*w) - 1
	n := (*w)[last]
	*w = (*w)[:last]
	return n
}
