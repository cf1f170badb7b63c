package tree_test

import (
	"math"
	"slices"
	"strconv"
	"strings"
	"testing"

	"cresset/api"
	"cresset/epoch"
	"cresset/tree"
)

// ref is an entry of a leaf.
func ref(key string, slot int) api.Entry {
	return api.Entry{Key: key, Ref: api.Handle{Slot: slot, Gen: 1}}
}

// refs is an entry for each key, its Slot being its place from 1 on.
func refs(keys ...string) []api.Entry {
	var list []api.Entry
	for at, key := range keys {
		list = append(list, ref(key, at+1))
	}
	return list
}

// child is an entry of an inner page.
func child(key string, id int) api.Entry { return api.Entry{Key: key, Child: id} }

func leaf(low, high string, right int, list ...api.Entry) api.Page {
	return api.Page{Leaf: true, Low: low, High: high, Right: right, List: list}
}

func inner(low, high string, right int, list ...api.Entry) api.Page {
	return api.Page{Low: low, High: high, Right: right, List: list}
}

func get(s int, key string) api.TreeOp { return api.TreeOp{Kind: api.OpGet, Session: s, Key: key} }
func add(s int, key string, slot int) api.TreeOp {
	return api.TreeOp{Kind: api.OpAdd, Session: s, Key: key, Ref: api.Handle{Slot: slot, Gen: 1}}
}
func remove(s int, key string, slot int) api.TreeOp {
	return api.TreeOp{Kind: api.OpRemove, Session: s, Key: key, Ref: api.Handle{Slot: slot, Gen: 1}}
}
func leafOf(s int, key string) api.TreeOp {
	return api.TreeOp{Kind: api.OpLeaf, Session: s, Key: key}
}
func shrink(s int, key string) api.TreeOp {
	return api.TreeOp{Kind: api.OpShrink, Session: s, Key: key}
}
func keptAdd(s int, key string, slot int) api.TreeOp {
	o := add(s, key, slot)
	o.Kept = true
	return o
}

// equal holds pages against each other by the test's own eyes.
func equal(a, b api.Page) bool {
	return a.Leaf == b.Leaf && a.Low == b.Low && a.High == b.High && a.Right == b.Right && slices.Equal(a.List, b.List)
}

func equalTold(a, b api.TreeTold) bool {
	return a.Err == b.Err && a.Entry == b.Entry && a.Found == b.Found && slices.Equal(a.List, b.List) && a.Next == b.Next && a.More == b.More
}

func newTree(t *testing.T, nodes, pages int) (*tree.Tree, *epoch.Epoch) {
	t.Helper()
	p := epoch.New()
	x, e := tree.New(nodes, pages, p)
	if e != api.OK || x == nil {
		t.Fatalf("New(%d, %d) answered %d", nodes, pages, e)
	}
	return x, p
}

func begin(t *testing.T, x *tree.Tree, o api.TreeOp) *tree.Op {
	t.Helper()
	f, e := x.Op(o)
	if e != api.OK || f == nil {
		t.Fatalf("Op(%v) answered %d", o, e)
	}
	return f
}

// steps lets a fiber do so many steps, with none of which it finishes.
func steps(t *testing.T, f *tree.Op, n int) {
	t.Helper()
	for range n {
		if f.Step() {
			t.Fatalf("it has finished in step %d", f.Steps())
		}
	}
}

// finish lets a fiber do all of its steps: what it came to.
func finish(t *testing.T, f *tree.Op) api.TreeTold {
	t.Helper()
	for n := 0; !f.Step(); n++ {
		if n > 1000 {
			t.Fatal("it does not end")
		}
		if told, ok := f.Told(); ok || !equalTold(told, api.TreeTold{}) {
			t.Fatalf("it has not finished, and told %v, %v", told, ok)
		}
	}
	told, ok := f.Told()
	if !ok {
		t.Fatal("it has finished, and does not tell")
	}
	return told
}

// run begins an operation and lets it do all of its steps.
func run(t *testing.T, x *tree.Tree, o api.TreeOp) api.TreeTold {
	t.Helper()
	return finish(t, begin(t, x, o))
}

func want(t *testing.T, what string, got, wanted api.Errno) {
	t.Helper()
	if got != wanted {
		t.Fatalf("%s answered %d, want %d", what, got, wanted)
	}
}

func wantTold(t *testing.T, got, wanted api.TreeTold) {
	t.Helper()
	if !equalTold(got, wanted) {
		t.Fatalf("told %v, want %v", got, wanted)
	}
}

// wantRun runs an operation: what it is to come to, in how many steps.
func wantRun(t *testing.T, x *tree.Tree, o api.TreeOp, n int64, wanted api.TreeTold) {
	t.Helper()
	f := begin(t, x, o)
	wantTold(t, finish(t, f), wanted)
	if f.Steps() != n {
		t.Fatalf("%v did %d steps, want %d", o, f.Steps(), n)
	}
}

func wantPage(t *testing.T, x *tree.Tree, n, deltas int, wanted api.Page) {
	t.Helper()
	p, long, e := x.Page(n)
	if e != api.OK || long != deltas || !equal(p, wanted) {
		t.Fatalf("Page(%d) = %v, %d, %d, want %v, %d", n, p, long, e, wanted, deltas)
	}
}

func wantNoPage(t *testing.T, x *tree.Tree, n int, wanted api.Errno) {
	t.Helper()
	if p, long, e := x.Page(n); e != wanted || long != 0 || !equal(p, api.Page{}) || p.List != nil {
		t.Fatalf("Page(%d) = %v, %d, %d, want %d alone", n, p, long, e, wanted)
	}
}

func wantCounts(t *testing.T, x *tree.Tree, nodes, pages int, missed int64) {
	t.Helper()
	if x.Nodes() != nodes || x.Pages() != pages || x.Missed() != missed || x.Stale() != 0 {
		t.Fatalf("Nodes %d, Pages %d, Missed %d, Stale %d, want %d, %d, %d, 0", x.Nodes(), x.Pages(), x.Missed(), x.Stale(), nodes, pages, missed)
	}
}

// all is what All tells.
func all(x *tree.Tree) []api.Entry { return slices.Collect(x.All()) }

func wantAll(t *testing.T, x *tree.Tree, wanted ...api.Entry) {
	t.Helper()
	if got := all(x); !slices.Equal(got, wanted) {
		t.Fatalf("All tells %v, want %v", got, wanted)
	}
}

// limbo is what waits.
func limbo(p *epoch.Epoch) []api.Retired {
	var list []api.Retired
	for _, x := range p.Limbo() {
		list = append(list, x)
	}
	return list
}

func node(slot int, gen int64) api.Retired {
	return api.Retired{Kind: api.ReNode, Handle: api.Handle{Slot: slot, Gen: gen}}
}

func number(n int) api.Retired {
	return api.Retired{Kind: api.RePage, Handle: api.Handle{Slot: n}}
}

func wantLimbo(t *testing.T, p *epoch.Epoch, wanted ...api.Retired) {
	t.Helper()
	if got := limbo(p); !slices.Equal(got, wanted) {
		t.Fatalf("%v waits, want %v", got, wanted)
	}
}

// sweep lets two epochs go by, and frees all that waits.
func sweep(t *testing.T, x *tree.Tree, p *epoch.Epoch) {
	t.Helper()
	for range 2 {
		list, e := p.Advance()
		want(t, "Advance", e, api.OK)
		for _, y := range list {
			want(t, "Free", x.Free(y), api.OK)
		}
	}
	wantLimbo(t, p)
}

// letters is the first n of them.
func letters(n int) []string {
	return strings.Split("abcdefghijklmnopqrstuvwxyz"[:n], "")
}

// fill adds keys one by one, their Slots being their places from 1 on, and lets go of what waits.
func fill(t *testing.T, x *tree.Tree, p *epoch.Epoch, keys ...string) {
	t.Helper()
	for at, key := range keys {
		wantTold(t, run(t, x, add(0, key, at+1)), api.TreeTold{Entry: ref(key, at+1), Found: true})
	}
	sweep(t, x, p)
}

// The chapter's first example.
func TestExampleNew(t *testing.T) {
	x, _ := newTree(t, 100, 10)
	wantCounts(t, x, 1, 1, 0)
}

// The chapter's second example: the steps Pin, Read, Swap, Tidy, Out, each by what is seen of it.
func TestExampleAdd(t *testing.T) {
	x, p := newTree(t, 100, 10)
	f := begin(t, x, add(3, "a", 7))
	pinned := func(wanted bool) {
		t.Helper()
		if at, is := p.Pinned(3); is != wanted || is && at != 1 {
			t.Fatalf("Pinned = %d, %v", at, is)
		}
	}
	pinned(false)
	steps(t, f, 1) // Pin
	pinned(true)
	steps(t, f, 1) // Read
	wantCounts(t, x, 1, 1, 0)
	steps(t, f, 1) // Swap
	wantCounts(t, x, 2, 1, 0)
	wantAll(t, x, ref("a", 7))
	wantPage(t, x, 0, 1, leaf("", "", 0, ref("a", 7)))
	steps(t, f, 1) // Tidy
	pinned(true)
	if told, ok := f.Told(); ok || !equalTold(told, api.TreeTold{}) {
		t.Fatalf("told %v, %v ahead of the end", told, ok)
	}
	if !f.Step() { // Out
		t.Fatal("it has not finished")
	}
	pinned(false)
	wantTold(t, finish(t, f), api.TreeTold{Entry: ref("a", 7), Found: true})
	if f.Steps() != 5 {
		t.Fatalf("%d steps", f.Steps())
	}
}

// The chapter's third example, with all that the halves are.
func TestExampleNineKeys(t *testing.T) {
	x, p := newTree(t, 100, 10)
	fill(t, x, p, letters(8)...)
	wantPage(t, x, 0, 1, leaf("", "", 0, refs(letters(8)...)...))
	wantRun(t, x, add(0, "i", 9), 7, api.TreeTold{Entry: ref("i", 9), Found: true}) // Pin, Read, Swap, Tidy, Half, Link, Out
	list := refs(letters(9)...)
	wantPage(t, x, 0, 0, inner("", "", 0, child("", 2), child("e", 1)))
	wantPage(t, x, 1, 0, leaf("e", "", 0, list[4:]...))
	wantPage(t, x, 2, 0, leaf("", "e", 1, list[:4]...))
	wantAll(t, x, list...)
	if x.Pages() != 3 {
		t.Fatalf("%d pages", x.Pages())
	}
}

// P13.1: what New makes, at the edges of both numbers.
func TestNew(t *testing.T) {
	for _, nodes := range []int{1, 2, api.MaxSlots} {
		for _, pages := range []int{1, 2, api.MaxSlots} {
			x, p := newTree(t, nodes, pages)
			wantCounts(t, x, 1, 1, 0)
			wantPage(t, x, 0, 0, leaf("", "", 0))
			wantAll(t, x)
			wantLimbo(t, p)
			if x.Kept() != 0 {
				t.Fatalf("Kept is %d", x.Kept())
			}
		}
	}
}

// P13.1, R2: ErrMade of an epoch, then the errors of nodes and of pages; nothing is answered beside them.
func TestNewRefuses(t *testing.T) {
	refuses := func(nodes, pages int, p *epoch.Epoch, wanted api.Errno) {
		t.Helper()
		if x, e := tree.New(nodes, pages, p); x != nil || e != wanted {
			t.Fatalf("New(%d, %d) = %v, %d, want %d", nodes, pages, x, e, wanted)
		}
	}
	wrong := []int{0, -1, api.MaxSlots + 1, math.MaxInt, math.MinInt}
	for _, p := range []*epoch.Epoch{nil, {}} {
		refuses(10, 10, p, api.ErrMade)
		for _, n := range wrong {
			refuses(n, 10, p, api.ErrMade)
			refuses(10, n, p, api.ErrMade)
		}
	}
	p := epoch.New()
	for _, n := range wrong {
		refuses(n, 10, p, api.ErrArg)
		refuses(10, n, p, api.ErrArg)
		refuses(n, n, p, api.ErrArg)
	}
	wantLimbo(t, p)
}

// P13.1: an epoch that is a clone, or has gone on, is one that a call made.
func TestNewTakesAnyEpoch(t *testing.T) {
	p := epoch.New()
	p.Pin(2)
	p.Advance()
	for _, p := range []*epoch.Epoch{p, p.Clone()} {
		x, e := tree.New(4, 4, p)
		want(t, "New", e, api.OK)
		wantTold(t, run(t, x, get(2, "a")), api.TreeTold{Err: api.ErrPinned})
		wantTold(t, run(t, x, add(1, "a", 1)), api.TreeTold{Entry: ref("a", 1), Found: true})
	}
}

// P13.1: the operations that may be, and each way in which one may not.
func TestOpAsks(t *testing.T) {
	x, _ := newTree(t, 10, 10)
	long := strings.Repeat("k", api.MaxKey)
	h := api.Handle{Slot: 1, Gen: 1}
	for _, s := range []int{0, 1, api.Sessions - 1, api.Sessions} {
		for _, key := range []string{"a", "\x00", "\xff", long} {
			for _, o := range []api.TreeOp{get(s, key), leafOf(s, key), leafOf(s, ""), shrink(s, key), add(s, key, 1), keptAdd(s, key, 1), remove(s, key, 1),
				{Kind: api.OpRemove, Session: s, Key: key}, // of a removal the Ref may be any
				{Kind: api.OpAdd, Session: s, Key: key, Ref: api.Handle{Slot: 1}},
				{Kind: api.OpAdd, Session: s, Key: key, Ref: api.Handle{Gen: 1}},
				{Kind: api.OpAdd, Session: s, Key: key, Ref: api.Handle{Slot: -3, Gen: -4}}} {
				begin(t, x, o)
			}
		}
	}
	wrong := []api.TreeOp{
		{}, {Kind: 0, Key: "a"}, {Kind: 6, Key: "a"}, {Kind: -1, Key: "a"}, {Kind: math.MaxInt, Key: "a"}, {Kind: math.MinInt, Key: "a", Ref: h},
		{Kind: 6, Key: "a", Ref: h}, {Kind: 0, Key: "a", Ref: h},
	}
	for _, o := range []api.TreeOp{get(0, "a"), leafOf(0, "a"), shrink(0, "a"), add(0, "a", 1), remove(0, "a", 1)} {
		for _, s := range []int{-1, api.Sessions + 1, math.MaxInt, math.MinInt} {
			other := o
			other.Session = s
			wrong = append(wrong, other)
		}
		other := o
		other.Key = long + "k"
		wrong = append(wrong, other)
		if o.Kind != api.OpLeaf {
			other.Key = ""
			wrong = append(wrong, other)
		}
		if other = o; o.Kind != api.OpAdd {
			other.Kept = true
			wrong = append(wrong, other)
		}
		if other = o; o.Kind == api.OpGet || o.Kind == api.OpLeaf || o.Kind == api.OpShrink {
			for _, h := range []api.Handle{h, {Slot: 1}, {Gen: 1}, {Slot: -1}} {
				other.Ref = h
				wrong = append(wrong, other)
			}
		}
	}
	wrong = append(wrong, api.TreeOp{Kind: api.OpAdd, Key: "a"}, api.TreeOp{Kind: api.OpAdd, Key: "a", Kept: true})
	for _, o := range wrong {
		if f, e := x.Op(o); f != nil || e != api.ErrArg {
			t.Errorf("Op(%v) = %v, %d", o, f, e)
		}
	}
	wantCounts(t, x, 1, 1, 0)
}

// P13.1: keeping, at the edge of what is free.
func TestKeep(t *testing.T) {
	x, _ := newTree(t, 5, 5)
	kept := func(wanted int) {
		t.Helper()
		if x.Kept() != wanted {
			t.Fatalf("Kept is %d, want %d", x.Kept(), wanted)
		}
	}
	for _, n := range []int{-1, math.MinInt} {
		want(t, "Keep", x.Keep(n), api.ErrArg)
		want(t, "Unkeep", x.Unkeep(n), api.ErrArg)
	}
	for _, n := range []int{5, 6, math.MaxInt} { // one of the five is the root's
		want(t, "Keep", x.Keep(n), api.ErrFull)
	}
	want(t, "Unkeep", x.Unkeep(1), api.ErrArg)
	want(t, "Unkeep", x.Unkeep(0), api.OK)
	want(t, "Keep", x.Keep(0), api.OK)
	kept(0)
	want(t, "Keep", x.Keep(4), api.OK)
	kept(4)
	want(t, "Keep", x.Keep(0), api.OK)
	for _, n := range []int{1, math.MaxInt} {
		want(t, "Keep", x.Keep(n), api.ErrFull)
	}
	kept(4)
	for _, n := range []int{5, math.MaxInt} {
		want(t, "Unkeep", x.Unkeep(n), api.ErrArg)
	}
	want(t, "Unkeep", x.Unkeep(3), api.OK)
	kept(1)
	want(t, "Keep", x.Keep(2), api.OK)
	kept(3)
	wantTold(t, run(t, x, add(0, "a", 1)), api.TreeTold{Entry: ref("a", 1), Found: true})
	want(t, "Keep", x.Keep(1), api.ErrFull)
	want(t, "Unkeep", x.Unkeep(3), api.OK)
	kept(0)
	want(t, "Keep", x.Keep(4), api.ErrFull)
	want(t, "Keep", x.Keep(3), api.OK)
	wantCounts(t, x, 2, 1, 0)
}

// P13.1: the room: what is kept is left by all but an OpAdd with Kept, which takes one of it, or a free slot, if none is kept.
func TestRoom(t *testing.T) {
	x, p := newTree(t, 4, 4)
	full := api.TreeTold{Err: api.ErrFull}
	want(t, "Keep", x.Keep(3), api.OK)
	wantRun(t, x, add(0, "a", 1), 4, full) // Pin, Read, Swap, Out
	wantCounts(t, x, 1, 1, 0)
	if _, is := p.Pinned(0); is {
		t.Fatal("it is pinned still")
	}
	wantRun(t, x, keptAdd(0, "a", 1), 5, api.TreeTold{Entry: ref("a", 1), Found: true})
	if x.Kept() != 2 || x.Nodes() != 2 {
		t.Fatalf("Kept %d, Nodes %d", x.Kept(), x.Nodes())
	}
	wantRun(t, x, keptAdd(0, "a", 2), 3, api.TreeTold{Entry: ref("a", 1)}) // it is there: nothing is taken
	if x.Kept() != 2 {
		t.Fatalf("Kept %d", x.Kept())
	}
	wantRun(t, x, remove(0, "a", 1), 4, full)
	want(t, "Unkeep", x.Unkeep(2), api.OK)
	wantRun(t, x, keptAdd(0, "b", 2), 5, api.TreeTold{Entry: ref("b", 2), Found: true}) // none is kept, one is free
	if x.Kept() != 0 || x.Nodes() != 3 {
		t.Fatalf("Kept %d, Nodes %d", x.Kept(), x.Nodes())
	}
	wantRun(t, x, remove(0, "a", 1), 5, api.TreeTold{Entry: ref("a", 1), Found: true})
	wantRun(t, x, keptAdd(0, "c", 3), 4, full)
	wantRun(t, x, add(0, "c", 3), 4, full)
	wantRun(t, x, remove(0, "b", 2), 4, full)
	wantRun(t, x, get(0, "b"), 3, api.TreeTold{Entry: ref("b", 2), Found: true})
	wantRun(t, x, leafOf(0, ""), 3, api.TreeTold{List: []api.Entry{ref("b", 2)}})
	wantAll(t, x, ref("b", 2))
}

// P13.1: an OpAdd with Kept that misses its swap has taken nothing.
func TestKeptMisses(t *testing.T) {
	x, _ := newTree(t, 10, 4)
	want(t, "Keep", x.Keep(2), api.OK)
	f := begin(t, x, keptAdd(1, "b", 2))
	steps(t, f, 2)
	run(t, x, add(0, "a", 1))
	steps(t, f, 1)
	wantCounts(t, x, 2, 1, 1)
	if x.Kept() != 2 {
		t.Fatalf("Kept %d", x.Kept())
	}
	wantTold(t, finish(t, f), api.TreeTold{Entry: ref("b", 2), Found: true})
	if x.Kept() != 1 || f.Steps() != 7 {
		t.Fatalf("Kept %d, %d steps", x.Kept(), f.Steps())
	}
}

// P13.1: Free by kinds: the arena's error of a node, the table's of a page.
func TestFree(t *testing.T) {
	x, p := newTree(t, 100, 10)
	for _, kind := range []int{0, -1, 3, 4, math.MaxInt, math.MinInt} {
		want(t, "Free", x.Free(api.Retired{Kind: kind, Handle: api.Handle{Gen: 1}}), api.ErrArg)
	}
	for _, n := range []int{0, 1, 9, 10, -1, math.MaxInt, math.MinInt} {
		want(t, "Free", x.Free(number(n)), api.ErrNone)
	}
	wantCounts(t, x, 1, 1, 0)
	for _, y := range []api.Retired{node(1, 1), node(0, 2), node(0, 0), node(-1, 1), node(math.MaxInt, 1)} {
		want(t, "Free", x.Free(y), api.ErrStale)
	}
	if x.Stale() != 5 {
		t.Fatalf("Stale is %d", x.Stale())
	}
	x, p = newTree(t, 100, 10)
	for at, key := range letters(7) {
		run(t, x, add(0, key, at+1))
	}
	list := limbo(p)
	if len(list) != 8 || x.Nodes() != 9 {
		t.Fatalf("%v waits, %d nodes", list, x.Nodes())
	}
	for at, y := range list {
		want(t, "Free", x.Free(y), api.OK)
		if x.Nodes() != 8-at {
			t.Fatalf("%d nodes", x.Nodes())
		}
	}
	want(t, "Free", x.Free(list[0]), api.ErrStale)
	wantAll(t, x, refs(letters(7)...)...)
}

// P13.5: a page that is none, or not live, answers ErrNone.
func TestNoPage(t *testing.T) {
	x, p := newTree(t, 200, 10)
	for _, n := range []int{1, 9, 10, -1, api.MaxSlots, math.MaxInt, math.MinInt} {
		wantNoPage(t, x, n, api.ErrNone)
	}
	fill(t, x, p, letters(9)...)
	wantNoPage(t, x, 3, api.ErrNone)
}

// P13.5: the page with all of its deltas, and how many they are.
func TestPage(t *testing.T) {
	x, _ := newTree(t, 100, 10)
	list := refs(letters(6)...)
	for at, y := range list {
		run(t, x, add(0, y.Key, at+1))
		wantPage(t, x, 0, at+1, leaf("", "", 0, list[:at+1]...))
	}
	run(t, x, remove(0, "c", 3)) // the seventh delta: it is made one page
	wantPage(t, x, 0, 0, leaf("", "", 0, slices.Delete(slices.Clone(list), 2, 3)...))
}

// P13.5: a page whose nodes were freed while they are in use answers chain.Page's error.
func TestPageOfWhatIsStale(t *testing.T) {
	x, _ := newTree(t, 10, 10)
	run(t, x, add(0, "a", 1))
	want(t, "Free", x.Free(node(0, 1)), api.OK)
	wantNoPage(t, x, 0, api.ErrStale)
	if x.Stale() != 1 {
		t.Fatalf("Stale is %d", x.Stale())
	}
	wantAll(t, x)
}

// P13.5: All tells the entries of all leaves as they were when it was asked, may be stopped and be done again.
func TestAll(t *testing.T) {
	x, p := newTree(t, 400, 60)
	var keys []string
	for i := range 60 {
		keys = append(keys, "k"+strconv.Itoa(100+i))
	}
	fill(t, x, p, keys...)
	list := refs(keys...)
	seq := x.All()
	run(t, x, remove(0, keys[3], 4))
	run(t, x, add(0, "a", 99))
	for range 2 {
		if got := slices.Collect(seq); !slices.Equal(got, list) {
			t.Fatalf("All tells %v", got)
		}
		var some []api.Entry
		for y := range seq {
			if some = append(some, y); len(some) == 7 {
				break
			}
		}
		if !slices.Equal(some, list[:7]) {
			t.Fatalf("All tells %v first", some)
		}
	}
	list = slices.Insert(slices.Delete(list, 3, 4), 0, ref("a", 99))
	wantAll(t, x, list...)
}

// P13.5: All between the steps of a split of the root, and of a leaf: the new pages count from where they are linked on, and nothing is told twice.
func TestAllWhileSplitting(t *testing.T) {
	x, p := newTree(t, 400, 60)
	keys := letters(26)
	for at, key := range keys {
		f := begin(t, x, add(0, key, at+1))
		steps(t, f, 2)
		for done := false; !done; done = f.Step() {
			if got := all(x); !slices.Equal(got, refs(keys[:at]...)) && !slices.Equal(got, refs(keys[:at+1]...)) {
				t.Fatalf("All tells %v in step %d of %q", got, f.Steps(), key)
			}
		}
		wantAll(t, x, refs(keys[:at+1]...)...)
	}
	sweep(t, x, p)
}
