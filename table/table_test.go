package table_test

import (
	"math"
	"slices"
	"testing"

	"cresset/api"
	"cresset/table"
)

var (
	x = api.Handle{Slot: 3, Gen: 1}
	y = api.Handle{Slot: 5, Gen: 2}
	z = api.Handle{Slot: 3, Gen: 2}
)

// odd is numbers that are no pages, whatever the table.
var odd = []int{-1, -2, -64, -65536, api.MaxSlots, api.MaxSlots + 1, 1 << 31, 1 << 32, math.MinInt, math.MaxInt}

func newTable(t *testing.T, pages int) *table.Table {
	t.Helper()
	b, e := table.New(pages)
	if e != api.OK || b == nil {
		t.Fatalf("New(%d) = %v, %d", pages, b, e)
	}
	return b
}

// given is a table whose first pages have heads.
func given(t *testing.T, pages int, heads ...api.Handle) *table.Table {
	t.Helper()
	b := newTable(t, pages)
	for page, h := range heads {
		wantAlloc(t, b, h, page)
	}
	return b
}

// want says which call answered otherwise than it should.
func want(t *testing.T, what string, got, wanted api.Errno) {
	t.Helper()
	if got != wanted {
		t.Fatalf("%s answered %d, want %d", what, got, wanted)
	}
}

func wantAlloc(t *testing.T, b *table.Table, h api.Handle, wanted int) {
	t.Helper()
	if page, e := b.Alloc(h); page != wanted || e != api.OK {
		t.Fatalf("Alloc(%v) = %d, %d, want %d", h, page, e, wanted)
	}
}

func wantNoAlloc(t *testing.T, b *table.Table, h api.Handle, wanted api.Errno) {
	t.Helper()
	if page, e := b.Alloc(h); page != 0 || e != wanted {
		t.Fatalf("Alloc(%v) = %d, %d, want 0, %d", h, page, e, wanted)
	}
}

func wantLoad(t *testing.T, b *table.Table, page int, wanted api.Handle) {
	t.Helper()
	if h, e := b.Load(page); h != wanted || e != api.OK {
		t.Fatalf("Load(%d) = %v, %d, want %v", page, h, e, wanted)
	}
}

func wantNoLoad(t *testing.T, b *table.Table, page int, wanted api.Errno) {
	t.Helper()
	if h, e := b.Load(page); h != (api.Handle{}) || e != wanted {
		t.Fatalf("Load(%d) = %v, %d, want none and %d", page, h, e, wanted)
	}
}

func wantSwap(t *testing.T, b *table.Table, page int, was, is api.Handle, wanted bool) {
	t.Helper()
	if done, e := b.Swap(page, was, is); done != wanted || e != api.OK {
		t.Fatalf("Swap(%d, %v, %v) = %v, %d, want %v", page, was, is, done, e, wanted)
	}
}

func wantNoSwap(t *testing.T, b *table.Table, page int, was, is api.Handle, wanted api.Errno) {
	t.Helper()
	if done, e := b.Swap(page, was, is); done || e != wanted {
		t.Fatalf("Swap(%d, %v, %v) = %v, %d, want false and %d", page, was, is, done, e, wanted)
	}
}

// wantNotLive asks of a page all that only a live one answers.
func wantNotLive(t *testing.T, b *table.Table, page int) {
	t.Helper()
	wantNoLoad(t, b, page, api.ErrNone)
	wantNoSwap(t, b, page, x, y, api.ErrNone)
	wantNoSwap(t, b, page, api.Handle{}, y, api.ErrNone)
	wantNoSwap(t, b, page, x, api.Handle{}, api.ErrNone)
	want(t, "Retire of a page that is not live", b.Retire(page), api.ErrNone)
}

// retired retires pages, released releases them as well.
func retired(t *testing.T, b *table.Table, pages ...int) {
	t.Helper()
	for _, page := range pages {
		want(t, "Retire", b.Retire(page), api.OK)
	}
}

func released(t *testing.T, b *table.Table, pages ...int) {
	t.Helper()
	for _, page := range pages {
		want(t, "Retire", b.Retire(page), api.OK)
		want(t, "Release", b.Release(page), api.OK)
	}
}

// row is what All tells of one page.
type row struct {
	page int
	head api.Handle
}

func all(b *table.Table) []row {
	var list []row
	for page, h := range b.All() {
		list = append(list, row{page, h})
	}
	return list
}

func wantAll(t *testing.T, b *table.Table, wanted ...row) {
	t.Helper()
	if got := all(b); !slices.Equal(got, wanted) {
		t.Fatalf("All tells %v, want %v", got, wanted)
	}
}

func wantCounts(t *testing.T, b *table.Table, pages, live, gone int, missed int64) {
	t.Helper()
	if b.Pages() != pages || b.Live() != live || b.Gone() != gone || b.Missed() != missed {
		t.Fatalf("Pages %d, Live %d, Gone %d, Missed %d, want %d, %d, %d, %d",
			b.Pages(), b.Live(), b.Gone(), b.Missed(), pages, live, gone, missed)
	}
}

func wantStates(t *testing.T, b *table.Table, wanted ...int) {
	t.Helper()
	for page, state := range wanted {
		if got := b.State(page); got != state {
			t.Fatalf("State(%d) = %d, want %d", page, got, state)
		}
	}
}

// The chapter's example 1.
func TestExample(t *testing.T) {
	b := newTable(t, 2)
	wantAlloc(t, b, x, 0)
	wantAlloc(t, b, y, 1)
	wantNoAlloc(t, b, z, api.ErrFull)
	wantSwap(t, b, 0, x, z, true)
	wantSwap(t, b, 0, x, y, false)
	wantCounts(t, b, 2, 2, 0, 1)
	want(t, "Retire(0)", b.Retire(0), api.OK)
	wantNoAlloc(t, b, x, api.ErrFull)
	want(t, "Release(0)", b.Release(0), api.OK)
	wantAlloc(t, b, x, 0)
}

// P10.1: how many pages there may be; they are all free, are given one by one, and no one more.
func TestNew(t *testing.T) {
	for _, pages := range []int{1, 2, 3, 63, 64, 65, 128, 1000, api.MaxSlots - 1, api.MaxSlots} {
		b := newTable(t, pages)
		wantCounts(t, b, pages, 0, 0, 0)
		wantAll(t, b)
		for page := range pages {
			if b.State(page) != api.PageFree {
				t.Fatalf("page %d of a new table is not free", page)
			}
		}
		wantNotLive(t, b, 0)
		wantNotLive(t, b, pages-1)
		wantNotLive(t, b, pages)
		for page := range pages {
			wantAlloc(t, b, api.Handle{Slot: page, Gen: 7}, page)
		}
		wantNoAlloc(t, b, x, api.ErrFull)
		wantNotLive(t, b, pages)
		wantCounts(t, b, pages, pages, 0, 0)
		for page := range pages {
			wantLoad(t, b, page, api.Handle{Slot: page, Gen: 7})
		}
	}
	for _, pages := range []int{0, -1, -2, -65536, api.MaxSlots + 1, 1 << 20, 1 << 32, 1<<32 + 1, math.MinInt, math.MaxInt} {
		if b, e := table.New(pages); b != nil || e != api.ErrArg {
			t.Errorf("New(%d) = %v, %d", pages, b, e)
		}
	}
}

// P10.1: a zero handle gets no page, also where none is free; handles that are zero in part are others.
func TestAllocOfTheZeroHandle(t *testing.T) {
	b := newTable(t, 3)
	wantNoAlloc(t, b, api.Handle{}, api.ErrArg)
	wantCounts(t, b, 3, 0, 0, 0)
	heads := []api.Handle{{Slot: 0, Gen: 1}, {Slot: 1, Gen: 0}, {Slot: -1, Gen: math.MinInt64}}
	for page, h := range heads {
		wantAlloc(t, b, h, page)
		wantLoad(t, b, page, h)
	}
	wantNoAlloc(t, b, api.Handle{}, api.ErrArg)
	wantNoAlloc(t, b, x, api.ErrFull)
	wantAll(t, b, row{0, heads[0]}, row{1, heads[1]}, row{2, heads[2]})
	retired(t, b, 0, 1, 2)
	wantNoAlloc(t, b, api.Handle{}, api.ErrArg)
	wantNoAlloc(t, b, x, api.ErrFull)
}

// P10.1: one handle may be the head of many pages: the table does not look into it.
func TestOneHandleForManyPages(t *testing.T) {
	b := given(t, 3, x, x, x)
	wantSwap(t, b, 1, x, y, true)
	wantAll(t, b, row{0, x}, row{1, y}, row{2, x})
	retired(t, b, 0)
	wantAll(t, b, row{1, y}, row{2, x})
}

// P10.1: the lowest free page is given, whatever the order in which they were released; one that is gone is not free.
func TestAllocGivesTheLowestFreePage(t *testing.T) {
	b := given(t, 8, x, x, x, x, x, x)
	retired(t, b, 0, 4, 1, 5, 2)
	for _, page := range []int{4, 1, 5, 2} {
		want(t, "Release", b.Release(page), api.OK)
	}
	wantAlloc(t, b, y, 1)
	want(t, "Release", b.Release(0), api.OK)
	for _, page := range []int{0, 2, 4, 5, 6} {
		wantAlloc(t, b, y, page)
	}
	released(t, b, 6)
	wantAlloc(t, b, z, 6)
	wantAlloc(t, b, z, 7)
	wantNoAlloc(t, b, z, api.ErrFull)
	wantAll(t, b, row{0, y}, row{1, y}, row{2, y}, row{3, x}, row{4, y}, row{5, y}, row{6, z}, row{7, z})
}

// P10.1: all orders in which some of five pages can be released.
func TestAllOrdersOfRelease(t *testing.T) {
	var order []int
	var try func()
	try = func() {
		if len(order) < 5 {
			for page := range 5 {
				if !slices.Contains(order, page) {
					order = append(order, page)
					try()
					order = order[:len(order)-1]
				}
			}
		}
		b := given(t, 5, x, x, x, x, x)
		released(t, b, order...)
		for _, page := range slices.Sorted(slices.Values(order)) {
			wantAlloc(t, b, y, page)
		}
		wantNoAlloc(t, b, y, api.ErrFull)
	}
	try()
}

// P10.1: released pages far from each other, over many of them.
func TestTheLowestOfMany(t *testing.T) {
	const pages = 1000
	b := newTable(t, pages)
	for page := range pages {
		wantAlloc(t, b, x, page)
	}
	for i := range pages { // each page once
		released(t, b, i*617%pages)
	}
	for page := range pages {
		wantAlloc(t, b, y, page)
	}
	for _, list := range [][]int{{999}, {64, 63}, {0, 128, 127}, {640, 960, 320, 0}, {999, 0}} {
		released(t, b, list...)
		for _, page := range slices.Sorted(slices.Values(list)) {
			wantAlloc(t, b, z, page)
		}
		wantNoAlloc(t, b, z, api.ErrFull)
	}
}

// P10.1: only a live page loads its head, is swapped or retired; numbers that are no pages are not live.
func TestPagesThatAreNotLive(t *testing.T) {
	b := given(t, 5, x, y, x)
	retired(t, b, 1)
	released(t, b, 2)
	before := all(b)
	for range 2 {
		for _, page := range append([]int{1, 2, 3, 4, 5, 6}, odd...) {
			wantNotLive(t, b, page)
		}
	}
	wantAll(t, b, before...)
	wantStates(t, b, api.PageLive, api.PageGone, api.PageFree, api.PageFree, api.PageFree)
	wantCounts(t, b, 5, 1, 1, 0)
	wantLoad(t, b, 0, x)
}

// P10.1: Load leaves the head; it is what Alloc or the last swap that was done made it.
func TestLoad(t *testing.T) {
	b := given(t, 2, x, y)
	for range 3 {
		wantLoad(t, b, 0, x)
		wantLoad(t, b, 1, y)
	}
	wantSwap(t, b, 0, x, z, true)
	wantLoad(t, b, 0, z)
	wantLoad(t, b, 1, y)
	wantSwap(t, b, 0, x, y, false)
	wantLoad(t, b, 0, z)
}

// P10.1: a swap is done from just the head: another slot, another Gen, another page's head or an earlier one is missed, and changes nothing else.
func TestSwap(t *testing.T) {
	b := given(t, 2, x, y)
	missed := int64(0)
	for _, was := range []api.Handle{y, z, {}, {Slot: 3}, {Gen: 1}, {Slot: 4, Gen: 1}, {Slot: 3, Gen: 1 << 32}, {Slot: 1<<32 + 3, Gen: 1}, {Slot: -3, Gen: -1}} {
		for _, is := range []api.Handle{x, y, z} {
			wantSwap(t, b, 0, was, is, false)
			missed++
			wantCounts(t, b, 2, 2, 0, missed)
			wantAll(t, b, row{0, x}, row{1, y})
		}
	}
	wantSwap(t, b, 0, x, z, true)
	wantSwap(t, b, 0, x, y, false)
	wantSwap(t, b, 0, z, x, true)
	wantSwap(t, b, 0, x, y, true)
	wantSwap(t, b, 0, y, z, true)
	wantSwap(t, b, 1, y, api.Handle{Slot: 0, Gen: -1}, true)
	wantCounts(t, b, 2, 2, 0, missed+1)
	wantAll(t, b, row{0, z}, row{1, api.Handle{Slot: 0, Gen: -1}})
}

// P10.1: a head may be swapped for itself, as often as one likes.
func TestSwapForItself(t *testing.T) {
	b := given(t, 1, x)
	for range 3 {
		wantSwap(t, b, 0, x, x, true)
		wantSwap(t, b, 0, y, y, false)
	}
	wantLoad(t, b, 0, x)
	wantCounts(t, b, 1, 1, 0, 3)
}

// P10.1: no page gets the zero handle by a swap, be it from the right head or not; that is refused, not missed.
func TestSwapForTheZeroHandle(t *testing.T) {
	b := given(t, 2, x, y)
	for _, was := range []api.Handle{x, y, {}} {
		wantNoSwap(t, b, 0, was, api.Handle{}, api.ErrArg)
	}
	wantCounts(t, b, 2, 2, 0, 0)
	wantAll(t, b, row{0, x}, row{1, y})
	wantSwap(t, b, 0, x, api.Handle{Slot: 1}, true)
	wantSwap(t, b, 0, api.Handle{Slot: 1}, api.Handle{Gen: 1}, true)
	wantLoad(t, b, 0, api.Handle{Gen: 1})
}

// P10.1: the way of a page: only what is live can be retired, only what is gone released.
func TestRetireAndRelease(t *testing.T) {
	b := newTable(t, 2)
	for range 3 {
		want(t, "Release of a free page", b.Release(0), api.ErrNone)
		wantAlloc(t, b, x, 0)
		wantStates(t, b, api.PageLive, api.PageFree)
		want(t, "Release of a live page", b.Release(0), api.ErrNone)
		wantLoad(t, b, 0, x)
		want(t, "Retire", b.Retire(0), api.OK)
		wantStates(t, b, api.PageGone, api.PageFree)
		wantCounts(t, b, 2, 0, 1, 0)
		want(t, "Retire of a gone page", b.Retire(0), api.ErrNone)
		wantStates(t, b, api.PageGone, api.PageFree)
		want(t, "Release", b.Release(0), api.OK)
		wantStates(t, b, api.PageFree, api.PageFree)
		wantCounts(t, b, 2, 0, 0, 0)
		want(t, "Retire of a free page", b.Retire(0), api.ErrNone)
		want(t, "Release of a free page", b.Release(0), api.ErrNone)
		wantCounts(t, b, 2, 0, 0, 0)
	}
	for _, page := range append([]int{0, 1, 2, 3}, odd...) {
		want(t, "Retire", b.Retire(page), api.ErrNone)
		want(t, "Release", b.Release(page), api.ErrNone)
	}
	wantCounts(t, b, 2, 0, 0, 0)
}

// P10.1: a page that is given anew has its new head alone: a swap from the old one is missed.
func TestAPageThatIsGivenAnew(t *testing.T) {
	b := given(t, 1, x)
	wantSwap(t, b, 0, x, z, true)
	released(t, b, 0)
	wantAlloc(t, b, y, 0)
	wantLoad(t, b, 0, y)
	wantSwap(t, b, 0, z, x, false)
	wantSwap(t, b, 0, x, z, false)
	wantSwap(t, b, 0, y, x, true)
	wantCounts(t, b, 1, 1, 0, 2)
}

// P10.2: the state of each page; what is no page is free.
func TestState(t *testing.T) {
	b := given(t, 5, x, x, x, x)
	retired(t, b, 1)
	released(t, b, 2)
	wantStates(t, b, api.PageLive, api.PageGone, api.PageFree, api.PageLive, api.PageFree)
	for _, page := range append([]int{5, 6, 64}, odd...) {
		if got := b.State(page); got != api.PageFree {
			t.Errorf("State(%d) = %d", page, got)
		}
	}
	retired(t, b, 0, 3)
	wantStates(t, b, api.PageGone, api.PageGone, api.PageFree, api.PageGone, api.PageFree)
}

// P10.2: Missed counts the swaps that were false without an error, and nothing else; retiring and giving anew leave it.
func TestMissed(t *testing.T) {
	b := given(t, 3, x, y)
	missed := func(wanted int64) {
		t.Helper()
		for range 2 { // to ask changes nothing
			if got := b.Missed(); got != wanted {
				t.Fatalf("Missed is %d, want %d", got, wanted)
			}
		}
	}
	wantSwap(t, b, 0, x, y, true)
	wantNoSwap(t, b, 2, x, y, api.ErrNone)
	wantNoSwap(t, b, 3, x, y, api.ErrNone)
	wantNoSwap(t, b, 0, x, api.Handle{}, api.ErrArg)
	wantNoAlloc(t, b, api.Handle{}, api.ErrArg)
	wantNoLoad(t, b, 2, api.ErrNone)
	b.Retire(2)
	b.Release(0)
	b.Clone()
	all(b)
	missed(0)
	wantSwap(t, b, 0, x, y, false)
	missed(1)
	wantSwap(t, b, 1, x, y, false)
	wantSwap(t, b, 1, x, x, false)
	missed(3)
	released(t, b, 0, 1)
	wantNoSwap(t, b, 1, x, y, api.ErrNone)
	wantAlloc(t, b, z, 0)
	missed(3)
	for range 1000 {
		wantSwap(t, b, 0, x, y, false)
	}
	missed(1003)
}

// P10.2: All tells the live pages alone, rising, with their heads.
func TestAllRises(t *testing.T) {
	b := newTable(t, 10)
	for page := range 9 {
		wantAlloc(t, b, api.Handle{Slot: page, Gen: 1}, page)
	}
	retired(t, b, 8, 3)
	released(t, b, 5, 0, 6)
	wantAlloc(t, b, x, 0)
	wantAlloc(t, b, y, 5)
	wantSwap(t, b, 7, api.Handle{Slot: 7, Gen: 1}, z, true)
	wantAll(t, b, row{0, x}, row{1, api.Handle{Slot: 1, Gen: 1}}, row{2, api.Handle{Slot: 2, Gen: 1}},
		row{4, api.Handle{Slot: 4, Gen: 1}}, row{5, y}, row{7, z})
	wantCounts(t, b, 10, 6, 2, 0)
}

// P10.2: a clone has all of the same: heads, what is free and gone, Missed.
func TestCloneHasTheSame(t *testing.T) {
	b := given(t, 6, x, y, z, x, y)
	retired(t, b, 1)
	released(t, b, 3, 0)
	wantSwap(t, b, 2, x, y, false)
	for _, c := range []*table.Table{b.Clone(), b.Clone().Clone()} {
		wantCounts(t, c, 6, 2, 1, 1)
		wantStates(t, c, api.PageFree, api.PageGone, api.PageLive, api.PageFree, api.PageLive, api.PageFree)
		wantAll(t, c, row{2, z}, row{4, y})
		wantNotLive(t, c, 0)
		wantNotLive(t, c, 1)
		wantSwap(t, c, 2, z, x, true)
		wantAlloc(t, c, x, 0)
		wantAlloc(t, c, y, 3)
		wantAlloc(t, c, z, 5)
		wantNoAlloc(t, c, x, api.ErrFull)
		want(t, "Release", c.Release(1), api.OK)
		wantAlloc(t, c, x, 1)
	}
	wantCounts(t, b, 6, 2, 1, 1)
	wantAll(t, b, row{2, z}, row{4, y})
	wantCounts(t, newTable(t, 4).Clone(), 4, 0, 0, 0)
}

// P10.2: what is done to one of the two is not seen at the other one.
func TestCloneGoesItsOwnWay(t *testing.T) {
	for _, turn := range []bool{false, true} {
		b := given(t, 6, x, y, z, x)
		retired(t, b, 1)
		released(t, b, 2)
		c := b.Clone()
		if turn {
			b, c = c, b
		}
		wantSwap(t, c, 0, x, y, true)
		wantLoad(t, b, 0, x)
		wantSwap(t, c, 0, x, y, false)
		retired(t, c, 3)
		want(t, "Release", c.Release(1), api.OK)
		wantAlloc(t, c, y, 1)
		wantAlloc(t, c, y, 2)
		wantAlloc(t, c, y, 4)
		wantCounts(t, b, 6, 2, 1, 0)
		wantStates(t, b, api.PageLive, api.PageGone, api.PageFree, api.PageLive, api.PageFree, api.PageFree)
		wantAll(t, b, row{0, x}, row{3, x})
		wantSwap(t, b, 3, y, z, false)
		wantSwap(t, b, 3, y, z, false)
		wantAlloc(t, b, z, 2)
		wantAlloc(t, b, z, 4)
		wantAlloc(t, b, z, 5)
		wantNoAlloc(t, b, z, api.ErrFull)
		wantCounts(t, c, 6, 4, 1, 1)
		wantAll(t, c, row{0, y}, row{1, y}, row{2, y}, row{4, y})
	}
}
