package delta

import "math"

// peaks is numbers by places, at first all 0, of which the first one above a number is found by halving: a tree in a list, 1 being its top and 2 n and 2 n + 1 the two below n, in which each is the greater of those two. Behind the last place stands one above all, so that a search always ends.
type peaks []int

func newPeaks(places int) peaks {
	half := 1
	for half <= places {
		half *= 2
	}
	p := make(peaks, 2*half)
	p.set(places, math.MaxInt)
	return p
}

func (p peaks) half() int { return len(p) / 2 }

// at is the number at a place.
func (p peaks) at(place int) int { return p[p.half()+place] }

func (p peaks) set(place, x int) {
	n := p.half() + place
	p[n] = x
	for n > 1 {
		n /= 2
		p[n] = max(p[2*n], p[2*n+1])
	}
}

// first is the first place, from one on, with a number above that one; the one behind the last place, if there is none.
func (p peaks) first(from, above int) int {
	n := p.half() + from
	for p[n] <= above {
		n++ // to what begins where n ends, and then to the greatest part that begins there
		for n%2 == 0 {
			n /= 2
		}
	}
	for n < p.half() {
		n *= 2
		if p[n] <= above {
			n++
		}
	}
	return n - p.half()
}
