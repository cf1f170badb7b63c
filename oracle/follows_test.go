package oracle_test

import (
	"testing"

	"cresset/api"
)

// orders calls what with each order of the numbers from 0 on, below n.
func orders(n int, what func([]int64)) {
	var try func(done []int64, used int)
	try = func(done []int64, used int) {
		if len(done) == n {
			what(done)
			return
		}
		for k := range n {
			if used>>k&1 == 0 {
				try(append(done[:len(done):len(done)], int64(k)), used|1<<k)
			}
		}
	}
	try(nil, 0)
}

// P14.4: in each order of seven timestamps, Published is one less than the least one that is pending, and Last when none is.
func TestPublishInEachOrder(t *testing.T) {
	const n = 7
	orders(n, func(order []int64) {
		o := begin(t, 100)
		for k := range int64(n) {
			next(t, o, 101+k)
		}
		done := [n + 1]bool{}
		for _, k := range order {
			publish(t, o, 101+k)
			done[k] = true
			least := int64(0)
			for done[least] {
				least++
			}
			if o.Published() != 100+least || o.Last() != 107 {
				t.Fatalf("%v: Published is %d, want %d", order, o.Published(), 100+least)
			}
		}
		if o.Published() != o.Last() {
			t.Fatalf("%v: Published is %d, Last %d", order, o.Published(), o.Last())
		}
	})
}

// P14.4: also where some are given between.
func TestPublishBetweenNexts(t *testing.T) {
	const n = 6
	orders(n, func(order []int64) {
		o := begin(t, 0)
		given := int64(0)
		for _, k := range order {
			for given <= k {
				given++
				next(t, o, given)
			}
			publish(t, o, k+1)
			least := o.Last() + 1
			for ts := range o.Pending() {
				least = min(least, ts)
			}
			if o.Published() != least-1 {
				t.Fatalf("%v: Published is %d, and %d is the least one that is pending", order, o.Published(), least)
			}
		}
		if o.Published() != n || o.Last() != n {
			t.Fatalf("%v: Published is %d, Last %d", order, o.Published(), o.Last())
		}
	})
}

// P14.3: where each session closes its snapshot and opens another one in turn, the watermark follows the oldest one, and never falls; nor does it by what is refused.
func TestWatermarkNeverFalls(t *testing.T) {
	o := begin(t, 0)
	for ts := range int64(17) {
		open(t, o, int(ts), ts)
		next(t, o, ts+1)
		publish(t, o, ts+1)
		wantAt(t, o, ts+1, ts+1, 0)
	}
	for ts := int64(17); ts < 100; ts++ {
		oldest := int(ts % 17)
		wantAt(t, o, ts, ts, ts-17)
		shut(t, o, oldest)
		wantAt(t, o, ts, ts, ts-16)
		want(t, "Close again", o.Close(oldest), api.ErrShut)
		open(t, o, oldest, ts)
		if _, e := o.Open(oldest); e != api.ErrOpen {
			t.Fatalf("Open again answered %d", e)
		}
		want(t, "Publish", o.Publish(ts-17), api.ErrArg)
		want(t, "Publish", o.Publish(ts+1), api.ErrArg)
		wantAt(t, o, ts, ts, ts-16)
		next(t, o, ts+1)
		wantAt(t, o, ts+1, ts, ts-16)
		publish(t, o, ts+1)
	}
}
