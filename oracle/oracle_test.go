package oracle_test

import (
	"math"
	"slices"
	"testing"

	"cresset/api"
	"cresset/oracle"
)

const maxTS = 1099511627776 // 2^40, as the document says

// want says which call answered otherwise than it should.
func want(t *testing.T, what string, got, wanted api.Errno) {
	t.Helper()
	if got != wanted {
		t.Fatalf("%s answered %d, want %d", what, got, wanted)
	}
}

func begin(t *testing.T, last int64) *oracle.Oracle {
	t.Helper()
	o, e := oracle.New(last)
	if o == nil || e != api.OK {
		t.Fatalf("New(%d) = %v, %d", last, o, e)
	}
	return o
}

// next asks for timestamps, which must be these.
func next(t *testing.T, o *oracle.Oracle, list ...int64) {
	t.Helper()
	for _, wanted := range list {
		if ts, e := o.Next(); ts != wanted || e != api.OK {
			t.Fatalf("Next = %d, %d, want %d", ts, e, wanted)
		}
		if o.Last() != wanted {
			t.Fatalf("Last is %d behind a Next of %d", o.Last(), wanted)
		}
	}
}

func publish(t *testing.T, o *oracle.Oracle, list ...int64) {
	t.Helper()
	for _, ts := range list {
		want(t, "Publish", o.Publish(ts), api.OK)
	}
}

func open(t *testing.T, o *oracle.Oracle, s int, wanted int64) {
	t.Helper()
	if ts, e := o.Open(s); ts != wanted || e != api.OK {
		t.Fatalf("Open(%d) = %d, %d, want %d", s, ts, e, wanted)
	}
	wantView(t, o, s, wanted)
}

func shut(t *testing.T, o *oracle.Oracle, s int) {
	t.Helper()
	want(t, "Close", o.Close(s), api.OK)
	wantNoView(t, o, s)
}

func wantView(t *testing.T, o *oracle.Oracle, s int, wanted int64) {
	t.Helper()
	if ts, ok := o.Snapshot(s); ts != wanted || !ok {
		t.Fatalf("Snapshot(%d) = %d, %v, want %d", s, ts, ok, wanted)
	}
}

func wantNoView(t *testing.T, o *oracle.Oracle, s int) {
	t.Helper()
	if ts, ok := o.Snapshot(s); ts != 0 || ok {
		t.Fatalf("Snapshot(%d) = %d, %v, want none", s, ts, ok)
	}
}

func pending(o *oracle.Oracle) []int64 {
	var list []int64
	for ts := range o.Pending() {
		list = append(list, ts)
	}
	return list
}

func wantPending(t *testing.T, o *oracle.Oracle, wanted ...int64) {
	t.Helper()
	if got := pending(o); !slices.Equal(got, wanted) {
		t.Fatalf("Pending tells %v, want %v", got, wanted)
	}
}

// wantAt holds the three numbers that an oracle tells against these.
func wantAt(t *testing.T, o *oracle.Oracle, last, published, watermark int64) {
	t.Helper()
	if o.Last() != last || o.Published() != published || o.Watermark() != watermark {
		t.Fatalf("Last is %d, Published %d, Watermark %d, want %d, %d, %d", o.Last(), o.Published(), o.Watermark(), last, published, watermark)
	}
}

// The chapter's example 1.
func TestExample(t *testing.T) {
	o := begin(t, 5)
	next(t, o, 6, 7)
	publish(t, o, 7)
	wantAt(t, o, 7, 5, 5)
	open(t, o, 0, 5)
	publish(t, o, 6)
	wantAt(t, o, 7, 7, 5)
	shut(t, o, 0)
	wantAt(t, o, 7, 7, 7)
}

// P14.1, New: a timestamp from 0 to MaxTS; all up to it are published, no session has a snapshot.
func TestNew(t *testing.T) {
	for _, last := range []int64{0, 1, 2, 5, 1 << 31, 1 << 32, maxTS - 1, maxTS} {
		o := begin(t, last)
		wantAt(t, o, last, last, last)
		wantPending(t, o)
		for s := -1; s <= 17; s++ {
			wantNoView(t, o, s)
		}
		for s := range 17 {
			want(t, "Close", o.Close(s), api.ErrShut)
		}
		if other := begin(t, last); other == o {
			t.Error("two of New are one")
		}
	}
	for _, last := range []int64{-1, -2, maxTS + 1, maxTS + 2, -maxTS, math.MinInt64, math.MaxInt64} {
		if o, e := oracle.New(last); o != nil || e != api.ErrArg {
			t.Errorf("New(%d) = %v, %d, want ErrArg", last, o, e)
		}
	}
}

// P14.1, Next: one more than Last, from whatever it began with, also while others are pending.
func TestNext(t *testing.T) {
	for _, last := range []int64{0, 1, 41, 1<<32 - 3, maxTS - 40} {
		o := begin(t, last)
		for n := int64(1); n <= 40; n++ {
			next(t, o, last+n)
			if n%3 == 0 {
				publish(t, o, last+n)
			}
			if o.Published() != last {
				t.Fatalf("Published is %d, and %d is pending", o.Published(), last+1)
			}
		}
	}
}

// P14.1, Next: ErrFull, when MaxTS was given, whatever is published; it changes nothing.
func TestNextAtTheEnd(t *testing.T) {
	full := func(o *oracle.Oracle) {
		t.Helper()
		for range 3 {
			if ts, e := o.Next(); ts != 0 || e != api.ErrFull {
				t.Fatalf("Next = %d, %d, want ErrFull", ts, e)
			}
		}
	}
	o := begin(t, maxTS)
	full(o)
	wantAt(t, o, maxTS, maxTS, maxTS)
	wantPending(t, o)
	open(t, o, 16, maxTS)
	want(t, "Publish", o.Publish(maxTS), api.ErrArg)
	want(t, "Publish", o.Publish(maxTS+1), api.ErrArg)

	o = begin(t, maxTS-2)
	next(t, o, maxTS-1, maxTS)
	full(o)
	wantPending(t, o, maxTS-1, maxTS)
	wantAt(t, o, maxTS, maxTS-2, maxTS-2)
	publish(t, o, maxTS)
	full(o)
	wantAt(t, o, maxTS, maxTS-2, maxTS-2)
	publish(t, o, maxTS-1)
	full(o)
	wantAt(t, o, maxTS, maxTS, maxTS)
}

// P14.1, Publish: ErrArg of what Next did not give, among it all up to what New was given, and of what is published; it changes nothing.
func TestPublishRefuses(t *testing.T) {
	for _, last := range []int64{0, 1, 5} {
		o := begin(t, last)
		refuse := func(list ...int64) {
			t.Helper()
			was, at := pending(o), [2]int64{o.Last(), o.Published()}
			for _, ts := range list {
				want(t, "Publish", o.Publish(ts), api.ErrArg)
			}
			wantPending(t, o, was...)
			wantAt(t, o, at[0], at[1], at[1])
		}
		never := []int64{math.MinInt64, -maxTS, -1, 0, last - 1, last, maxTS, maxTS + 1, math.MaxInt64}
		refuse(never...)
		refuse(last+1, last+2)
		next(t, o, last+1)
		refuse(never...)
		refuse(last + 2)
		publish(t, o, last+1)
		refuse(last+1, last+2)
		next(t, o, last+2, last+3, last+4)
		publish(t, o, last+3)
		refuse(last+1, last+3, last+5)
		publish(t, o, last+2)
		refuse(last+1, last+2, last+3, last+5)
		refuse(never...)
		publish(t, o, last+4)
		refuse(last+1, last+2, last+3, last+4, last+5)
		next(t, o, last+5)
		publish(t, o, last+5)
		wantAt(t, o, last+5, last+5, last+5)
	}
}

// P14.1, Published: the greatest one up to which all are; those that are published ahead count when the ones between are.
func TestPublishedWaitsForAll(t *testing.T) {
	o := begin(t, 10)
	next(t, o, 11, 12, 13, 14, 15, 16, 17)
	steps := []struct{ ts, published int64 }{{13, 10}, {12, 10}, {16, 10}, {11, 13}, {15, 13}, {14, 16}, {17, 17}}
	for _, x := range steps {
		publish(t, o, x.ts)
		wantAt(t, o, 17, x.published, x.published)
	}
	wantPending(t, o)
}

// P14.1, Pending: what was given and is not published, rising.
func TestPending(t *testing.T) {
	o := begin(t, 0)
	wantPending(t, o)
	next(t, o, 1, 2, 3, 4, 5)
	wantPending(t, o, 1, 2, 3, 4, 5)
	publish(t, o, 4)
	wantPending(t, o, 1, 2, 3, 5)
	publish(t, o, 5)
	wantPending(t, o, 1, 2, 3)
	publish(t, o, 1)
	wantPending(t, o, 2, 3)
	next(t, o, 6)
	wantPending(t, o, 2, 3, 6)
	publish(t, o, 2)
	wantPending(t, o, 3, 6)
	publish(t, o, 3)
	wantPending(t, o, 6)
	wantAt(t, o, 6, 5, 5)
	publish(t, o, 6)
	wantPending(t, o)
	next(t, o, 7)
	wantPending(t, o, 7)
}

// P14.2: which numbers are sessions; the store's own is one of them.
func TestSessions(t *testing.T) {
	o := begin(t, 3)
	for _, s := range []int{-1, -2, -17, 17, 18, 64, 1 << 32, 1<<32 + 1, -1 << 32, math.MinInt, math.MaxInt} {
		if ts, e := o.Open(s); ts != 0 || e != api.ErrArg {
			t.Errorf("Open(%d) = %d, %d, want ErrArg", s, ts, e)
		}
		want(t, "Close", o.Close(s), api.ErrArg)
		wantNoView(t, o, s)
	}
	for s := range 17 {
		wantNoView(t, o, s)
	}
	for s := range 17 {
		open(t, o, s, int64(3+s))
		for other := s + 1; other < 17; other++ {
			wantNoView(t, o, other)
		}
		next(t, o, int64(4+s))
		publish(t, o, int64(4+s))
	}
	for s := range 17 {
		wantView(t, o, s, int64(3+s))
		wantAt(t, o, 20, 20, int64(3+s))
		shut(t, o, s)
		for other := s + 1; other < 17; other++ {
			wantView(t, o, other, int64(3+other))
		}
	}
	wantAt(t, o, 20, 20, 20)
}

// P14.2, Open: one that has a snapshot gets none, and keeps the one it has; Close: one that has none has nothing to close.
func TestOpenAndClose(t *testing.T) {
	for s := range 17 {
		o := begin(t, 0)
		want(t, "Close", o.Close(s), api.ErrShut)
		open(t, o, s, 0)
		next(t, o, 1, 2)
		publish(t, o, 1)
		for range 2 {
			if ts, e := o.Open(s); ts != 0 || e != api.ErrOpen {
				t.Fatalf("Open again = %d, %d, want ErrOpen", ts, e)
			}
			wantView(t, o, s, 0)
			wantAt(t, o, 2, 1, 0)
		}
		shut(t, o, s)
		wantAt(t, o, 2, 1, 1)
		want(t, "Close again", o.Close(s), api.ErrShut)
		open(t, o, s, 1)
		publish(t, o, 2)
		if ts, e := o.Open(s); ts != 0 || e != api.ErrOpen {
			t.Fatalf("Open again = %d, %d, want ErrOpen", ts, e)
		}
		wantView(t, o, s, 1)
		shut(t, o, s)
		want(t, "Close again", o.Close(s), api.ErrShut)
		wantAt(t, o, 2, 2, 2)
	}
}

// P14.2, Open: the snapshot is Published, not Last, and not what is published ahead; it stays what it was.
func TestOpenTakesWhatIsPublished(t *testing.T) {
	o := begin(t, 7)
	next(t, o, 8, 9, 10)
	publish(t, o, 9)
	open(t, o, 1, 7)
	publish(t, o, 8)
	open(t, o, 2, 9)
	publish(t, o, 10)
	open(t, o, 3, 10)
	wantView(t, o, 1, 7)
	wantView(t, o, 2, 9)
	wantAt(t, o, 10, 10, 7)
}

// P14.2, Watermark: the least of all, in whatever order they were opened and closed; two sessions may share a snapshot.
func TestWatermark(t *testing.T) {
	o := begin(t, 2)
	open(t, o, 9, 2)
	open(t, o, 4, 2)
	next(t, o, 3)
	wantAt(t, o, 3, 2, 2)
	publish(t, o, 3)
	open(t, o, 0, 3)
	next(t, o, 4)
	publish(t, o, 4)
	open(t, o, 16, 4)
	next(t, o, 5)
	publish(t, o, 5)
	wantAt(t, o, 5, 5, 2)
	shut(t, o, 9)
	wantAt(t, o, 5, 5, 2)
	shut(t, o, 0)
	wantAt(t, o, 5, 5, 2)
	open(t, o, 9, 5)
	shut(t, o, 4)
	wantAt(t, o, 5, 5, 4)
	shut(t, o, 16)
	wantAt(t, o, 5, 5, 5)
	next(t, o, 6)
	publish(t, o, 6)
	wantAt(t, o, 6, 6, 5)
	shut(t, o, 9)
	wantAt(t, o, 6, 6, 6)
}

// P14.2: 0 is a snapshot like any other one.
func TestSnapshotOfNothing(t *testing.T) {
	o := begin(t, 0)
	open(t, o, 5, 0)
	next(t, o, 1)
	publish(t, o, 1)
	wantAt(t, o, 1, 1, 0)
	wantView(t, o, 5, 0)
	shut(t, o, 5)
	wantAt(t, o, 1, 1, 1)
}

// P14.2, Clone: all of the same; then each goes its own way.
func TestClone(t *testing.T) {
	o := begin(t, 4)
	open(t, o, 0, 4)
	next(t, o, 5, 6, 7, 8, 9)
	publish(t, o, 5, 7, 9)
	open(t, o, 16, 5)
	c := o.Clone()
	same := func(x *oracle.Oracle) {
		t.Helper()
		wantAt(t, x, 9, 5, 4)
		wantPending(t, x, 6, 8)
		wantView(t, x, 0, 4)
		wantView(t, x, 16, 5)
		for s := 1; s < 16; s++ {
			wantNoView(t, x, s)
		}
	}
	same(o)
	same(c)
	want(t, "Publish", c.Publish(7), api.ErrArg)
	publish(t, c, 6)
	shut(t, c, 0)
	open(t, c, 3, 7)
	next(t, c, 10)
	same(o)
	wantAt(t, c, 10, 7, 5)
	wantPending(t, c, 8, 10)
	d := c.Clone()
	publish(t, o, 8)
	want(t, "Publish", c.Publish(9), api.ErrArg)
	publish(t, c, 8)
	wantAt(t, c, 10, 9, 5)
	wantPending(t, c, 10)
	wantAt(t, d, 10, 7, 5)
	wantPending(t, d, 8, 10)
	wantAt(t, o, 9, 5, 4)
	wantPending(t, o, 6)
	publish(t, o, 6)
	wantAt(t, o, 9, 9, 4)
	wantView(t, o, 0, 4)
	wantNoView(t, o, 3)
}

// P14.2, Clone: of one that has given nothing, it is one that a call made.
func TestCloneOfTheFirst(t *testing.T) {
	c := begin(t, 0).Clone()
	if c == nil {
		t.Fatal("no clone")
	}
	wantAt(t, c, 0, 0, 0)
	next(t, c, 1)
	publish(t, c, 1)
	open(t, c, 0, 1)
}
