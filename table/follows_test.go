package table_test

import (
	"testing"

	"cresset/api"
	"cresset/table"
)

// P10.3: a page that was retired loads no head, whatever is done but to release it and to give it anew.
func TestARetiredPageLoadsNoHead(t *testing.T) {
	b := given(t, 3, x, y, z)
	retired(t, b, 1)
	for i := range 20 {
		wantNotLive(t, b, 1)
		wantNoAlloc(t, b, x, api.ErrFull)
		released(t, b, 0)
		wantNotLive(t, b, 1)
		wantAlloc(t, b, api.Handle{Slot: i, Gen: 1}, 0)
		wantNotLive(t, b, 1)
		wantSwap(t, b, 2, z, z, true)
		wantNotLive(t, b.Clone(), 1)
	}
	want(t, "Release", b.Release(1), api.OK)
	wantNotLive(t, b, 1)
	released(t, b, 0)
	wantAlloc(t, b, x, 0)
	wantNotLive(t, b, 1)
	wantAlloc(t, b, z, 1)
	wantLoad(t, b, 1, z)
}

// wantWhole asks whether free, live and gone pages are all pages, and the counts are those of the states and of All.
func wantWhole(t *testing.T, b *table.Table) {
	t.Helper()
	var of [3]int
	for page := range b.Pages() {
		state := b.State(page)
		if state < api.PageFree || state > api.PageGone {
			t.Fatalf("State(%d) = %d", page, state)
		}
		of[state]++
		h, e := b.Load(page)
		if live := state == api.PageLive; live != (e == api.OK) || live == (h == api.Handle{}) {
			t.Fatalf("page %d in the state %d loads %v (%d)", page, state, h, e)
		}
	}
	if of[api.PageLive] != b.Live() || of[api.PageGone] != b.Gone() || of[api.PageFree]+b.Live()+b.Gone() != b.Pages() {
		t.Fatalf("%v pages are free, live and gone; Live is %d, Gone %d of %d", of, b.Live(), b.Gone(), b.Pages())
	}
	if got := len(all(b)); got != b.Live() {
		t.Fatalf("All tells %d of %d live pages", got, b.Live())
	}
}

// P10.3: free, live and gone pages are all pages, at each place of a long run; Alloc is refused just when none is free.
func TestFreeLiveAndGoneAreAll(t *testing.T) {
	for pages := 1; pages <= 9; pages++ {
		b := newTable(t, pages)
		wantWhole(t, b)
		for i := range 300 {
			free := b.Pages() - b.Live() - b.Gone()
			if _, e := b.Alloc(x); (e == api.OK) != (free > 0) {
				t.Fatalf("Alloc with %d free pages answered %d", free, e)
			}
			wantWhole(t, b)
			b.Retire(i * i % (pages + 1))
			wantWhole(t, b)
			if i%3 > 0 {
				b.Release(i * 7 % (pages + 1))
			}
			wantWhole(t, b)
		}
	}
}

// P10.4: of two swaps of a page from the same head just the first one is done, if both swap it for another one.
func TestOneOfTwoSwapsIsDone(t *testing.T) {
	heads := []api.Handle{x, y, z, {Slot: 9}, {Gen: 9}}
	for _, from := range heads {
		for _, first := range heads {
			for _, second := range heads {
				b := given(t, 2, y, from)
				wantSwap(t, b, 1, from, first, true)
				wantSwap(t, b, 1, from, second, first == from) // only a swap for itself leaves the head to the other one
				wantLoad(t, b, 0, y)
			}
		}
	}
}

// P10.4: of many sessions that have seen one head just one is done in each round, and the others are missed.
func TestOneOfManySwapsIsDone(t *testing.T) {
	b := given(t, 1, api.Handle{Gen: 1})
	for round := range 100 {
		seen, _ := b.Load(0)
		done := 0
		for s := range api.Sessions {
			if ok, _ := b.Swap(0, seen, api.Handle{Slot: s, Gen: int64(round) + 2}); ok {
				done++
			}
		}
		if done != 1 {
			t.Fatalf("%d swaps from one head were done", done)
		}
	}
	wantCounts(t, b, 1, 1, 0, 100*(api.Sessions-1))
}
