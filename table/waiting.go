package table

import (
	"math/bits"
	"slices"
)

const wordBits = 64

// waiting is the numbers of pages that were released, a bit each: a word is looked at for 64 pages at once, so that the lowest one is found by few looks.
type waiting struct {
	words []uint64
	many  int
}

// add puts a number among those that wait; it must not be there.
func (w *waiting) add(n int) {
	if more := n/wordBits + 1 - len(w.words); more > 0 {
		w.words = append(w.words, make([]uint64, more)...)
	}
	w.words[n/wordBits] |= 1 << (n % wordBits)
	w.many++
}

// take takes the lowest one away; there must be one.
func (w *waiting) take() int {
	at := slices.IndexFunc(w.words, func(word uint64) bool { return word != 0 })
	bit := bits.TrailingZeros64(w.words[at])
	w.words[at] &^= 1 << bit
	w.many--
	return at*wordBits + bit
}

func (w waiting) clone() waiting {
	return waiting{words: slices.Clone(w.words), many: w.many}
}
