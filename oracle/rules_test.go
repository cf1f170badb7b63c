package oracle_test

import (
	"iter"
	"math"
	"runtime"
	"slices"
	"testing"

	"cresset/api"
	"cresset/oracle"
)

// The calls that the chapter lists keep their signatures.
var (
	_ func(int64) (*oracle.Oracle, api.Errno)      = oracle.New
	_ func(*oracle.Oracle) (int64, api.Errno)      = (*oracle.Oracle).Next
	_ func(*oracle.Oracle, int64) api.Errno        = (*oracle.Oracle).Publish
	_ func(*oracle.Oracle) int64                   = (*oracle.Oracle).Last
	_ func(*oracle.Oracle) int64                   = (*oracle.Oracle).Published
	_ func(*oracle.Oracle, int) (int64, api.Errno) = (*oracle.Oracle).Open
	_ func(*oracle.Oracle, int) api.Errno          = (*oracle.Oracle).Close
	_ func(*oracle.Oracle, int) (int64, bool)      = (*oracle.Oracle).Snapshot
	_ func(*oracle.Oracle) int64                   = (*oracle.Oracle).Watermark
	_ func(*oracle.Oracle) iter.Seq[int64]         = (*oracle.Oracle).Pending
	_ func(*oracle.Oracle) *oracle.Oracle          = (*oracle.Oracle).Clone
)

func TestErrorsHaveTheirNumbers(t *testing.T) {
	got := []api.Errno{api.OK, api.ErrArg, api.ErrMade, api.ErrFull, api.ErrOpen, api.ErrShut, api.Sessions, api.MaxTS}
	if wanted := []api.Errno{0, 1, 2, 5, 140, 141, 16, maxTS}; !slices.Equal(got, wanted) {
		t.Errorf("errors and limits are %v, want %v", got, wanted)
	}
}

// R1: whatever is handed in, each call ends, and none panics.
func TestAnyArguments(t *testing.T) {
	stamps := []int64{math.MinInt64, math.MinInt64 + 1, -maxTS - 1, -1, 0, 1, 2, 3, maxTS - 1, maxTS, maxTS + 1, math.MaxInt64 - 1, math.MaxInt64}
	sessions := []int{math.MinInt, -1, 0, 1, 15, 16, 17, math.MaxInt}
	for _, last := range stamps {
		o, e := oracle.New(last)
		if wanted := last >= 0 && last <= maxTS; wanted != (e == api.OK) || wanted != (o != nil) {
			t.Fatalf("New(%d) = %v, %d", last, o, e)
		}
		for range 3 {
			for _, s := range sessions {
				o.Open(s)
				o.Snapshot(s)
			}
			o.Next()
			o.Next()
			for _, ts := range stamps {
				o.Publish(ts)
			}
			pending(o)
			for _, s := range sessions {
				o.Close(s)
			}
			if o.Watermark() > o.Published() || o.Published() > o.Last() {
				t.Fatalf("Watermark %d, Published %d, Last %d", o.Watermark(), o.Published(), o.Last())
			}
			o = o.Clone()
		}
	}
}

// R3: Pending tells what was there when it was asked for, whatever is done on the way or behind; it may stop, and be done again.
func TestPendingTellsWhatWasThere(t *testing.T) {
	o := begin(t, 0)
	next(t, o, 1, 2, 3, 4)
	publish(t, o, 2)
	seq := o.Pending()
	wanted := []int64{1, 3, 4}
	collect := func(each func(int64)) []int64 {
		var list []int64
		for ts := range seq {
			list = append(list, ts)
			each(ts)
		}
		return list
	}
	if got := collect(func(ts int64) { o.Next(); o.Publish(5 - ts); o.Publish(ts) }); !slices.Equal(got, wanted) {
		t.Errorf("changed on the way: %v", got)
	}
	for ts := range seq {
		if ts != 1 {
			t.Errorf("the first one is %d", ts)
		}
		break
	}
	for range 3 {
		o.Next()
		o.Publish(o.Last() - 1)
		if got := collect(func(int64) {}); !slices.Equal(got, wanted) {
			t.Errorf("again: %v", got)
		}
	}
	none := begin(t, 0)
	seq = none.Pending()
	next(t, none, 1)
	if got := collect(func(int64) {}); got != nil {
		t.Errorf("asked for when nothing was pending: %v", got)
	}
}

// R3: Pending ends where its caller says so, at each place, and two of them do not disturb each other.
func TestPendingMayStopAnywhere(t *testing.T) {
	o := begin(t, 0)
	next(t, o, 1, 2, 3, 4, 5)
	for stop := 1; stop <= 5; stop++ {
		n := 0
		for ts := range o.Pending() {
			if n++; ts != int64(n) {
				t.Fatalf("%d told at the place %d", ts, n)
			}
			wantPending(t, o, 1, 2, 3, 4, 5)
			if n == stop {
				break
			}
		}
		if n != stop {
			t.Errorf("%d told, want %d", n, stop)
		}
	}
}

// R5, P14.2: an oracle that no call made; ErrMade stands ahead of all other errors, and nothing is kept there.
func TestAnOracleThatNoCallMade(t *testing.T) {
	for _, o := range []*oracle.Oracle{nil, {}, new(oracle.Oracle)} {
		for range 2 {
			if ts, e := o.Next(); ts != 0 || e != api.ErrMade {
				t.Errorf("Next = %d, %d", ts, e)
			}
			for _, ts := range []int64{0, 1, -1, maxTS, math.MinInt64, math.MaxInt64} {
				want(t, "Publish", o.Publish(ts), api.ErrMade)
			}
			for _, s := range []int{0, 1, 16, -1, 17, math.MinInt, math.MaxInt} {
				if ts, e := o.Open(s); ts != 0 || e != api.ErrMade {
					t.Errorf("Open = %d, %d", ts, e)
				}
				want(t, "Close", o.Close(s), api.ErrMade)
				wantNoView(t, o, s)
			}
			wantAt(t, o, 0, 0, 0)
			wantPending(t, o)
			if c := o.Clone(); c != nil {
				t.Errorf("Clone is %v", c)
			}
		}
	}
}

// R6: the same calls answer the same.
func TestSameAgain(t *testing.T) {
	run := func() []int64 {
		o := begin(t, 3)
		var list []int64
		for i := range int64(3000) {
			ts, _ := o.Next()
			list = append(list, ts, int64(o.Publish(i*i%(ts+2))), int64(o.Publish(ts-i%7)))
			view, e := o.Open(int(i * i % 18))
			list = append(list, view, int64(e), int64(o.Close(int(i*7%18))))
			list = append(list, o.Published(), o.Watermark())
			if i%100 == 0 {
				list = append(list, pending(o)...)
				o = o.Clone()
			}
		}
		return append(list, pending(o)...)
	}
	first := run()
	for range 5 {
		if again := run(); !slices.Equal(first, again) {
			t.Fatal("another answer the second time")
		}
	}
}

// The bound: so many calls would not end in time if each one went through all that is pending, or waits.
func TestManyArePending(t *testing.T) {
	const many = 300000
	o := begin(t, 5)
	for ts := int64(6); ts < 6+many; ts++ {
		next(t, o, ts)
	}
	for ts := int64(5 + many); ts > 6; ts-- {
		if o.Publish(ts) != api.OK || o.Publish(ts) != api.ErrArg || o.Published() != 5 || o.Watermark() != 5 {
			t.Fatalf("Publish(%d): Published %d", ts, o.Published())
		}
	}
	c := o.Clone()
	publish(t, o, 6)
	wantAt(t, o, 5+many, 5+many, 5+many)
	wantPending(t, o)
	wantPending(t, c, 6)
	publish(t, c, 6)
	wantAt(t, c, 5+many, 5+many, 5+many)
	for ts := int64(6 + many); ts < 6+2*many; ts++ {
		next(t, o, ts)
		publish(t, o, ts)
		if o.Published() != ts {
			t.Fatalf("Published is %d, want %d", o.Published(), ts)
		}
	}
}

// The bound: what has waited once, and does no more, costs nothing later.
func TestClonesBehindGreatOnes(t *testing.T) {
	const many = 300000
	o := begin(t, 0)
	for range many {
		o.Next()
	}
	for ts := int64(many); ts > 0; ts-- {
		publish(t, o, ts)
	}
	for range 20000 {
		c := o.Clone()
		if len(pending(c)) != 0 || c.Published() != many {
			t.Fatal("another clone")
		}
	}
}

// The bound: what is published takes no room.
func TestNothingIsKeptOfWhatIsPublished(t *testing.T) {
	const many = 1000000
	held := func() uint64 {
		runtime.GC()
		var m runtime.MemStats
		runtime.ReadMemStats(&m)
		return m.HeapAlloc
	}
	o := begin(t, 0)
	before := held()
	for range many {
		ts, _ := o.Next()
		if o.Publish(ts) != api.OK {
			t.Fatalf("Publish(%d)", ts)
		}
	}
	if behind := held(); behind > before+many {
		t.Errorf("%d bytes are held behind %d timestamps, %d ahead", behind, many, before)
	}
	wantAt(t, o, many, many, many)
}
