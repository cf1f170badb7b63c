package tree_test

import (
	"slices"
	"testing"

	"cresset/api"
	"cresset/epoch"
	"cresset/tree"
)

// grown is a tree of the letters a to m: the root has three leaves, a to d (page 2), e to h (page 1), i to m (page 3).
func grown(t *testing.T, nodes, pages int) (*tree.Tree, *epoch.Epoch) {
	t.Helper()
	x, p := newTree(t, nodes, pages)
	fill(t, x, p, letters(13)...)
	list := refs(letters(13)...)
	wantPage(t, x, 0, 1, inner("", "", 0, child("", 2), child("e", 1), child("i", 3)))
	wantPage(t, x, 2, 0, leaf("", "e", 1, list[:4]...))
	wantPage(t, x, 1, 5, leaf("e", "i", 3, list[4:8]...))
	wantPage(t, x, 3, 0, leaf("i", "", 0, list[8:]...))
	wantCounts(t, x, 10, 4, 0)
	return x, p
}

// P13.2, Pin: an error of the epoch is Err, and it has finished; the one that is pinned goes on.
func TestPinRefuses(t *testing.T) {
	x, p := newTree(t, 10, 10)
	a := begin(t, x, add(2, "a", 1))
	steps(t, a, 1)
	for _, o := range []api.TreeOp{get(2, "a"), add(2, "b", 1), remove(2, "a", 1), leafOf(2, ""), shrink(2, "a"), keptAdd(2, "b", 1)} {
		wantRun(t, x, o, 1, api.TreeTold{Err: api.ErrPinned})
		if _, is := p.Pinned(2); !is {
			t.Fatal("it is pinned no more")
		}
	}
	wantTold(t, finish(t, a), api.TreeTold{Entry: ref("a", 1), Found: true})
	wantRun(t, x, get(2, "a"), 3, api.TreeTold{Entry: ref("a", 1), Found: true})
}

// P13.2: what is not done with its beginning does nothing ahead of its first step.
func TestBeginningDoesNothing(t *testing.T) {
	x, p := newTree(t, 10, 10)
	f := begin(t, x, add(2, "a", 1))
	if _, is := p.Pinned(2); is || f.Steps() != 0 {
		t.Fatal("it has done something")
	}
	if told, ok := f.Told(); ok || !equalTold(told, api.TreeTold{}) {
		t.Fatalf("told %v, %v", told, ok)
	}
	wantRun(t, x, get(2, "a"), 3, api.TreeTold{})
}

// P13.2: behind the end a step does nothing.
func TestBehindTheEnd(t *testing.T) {
	x, p := newTree(t, 10, 10)
	f := begin(t, x, add(2, "a", 1))
	told := finish(t, f)
	p.Pin(2)
	for range 3 {
		if !f.Step() || f.Steps() != 5 {
			t.Fatalf("it goes on: %d steps", f.Steps())
		}
		again, ok := f.Told()
		if !ok || !equalTold(again, told) {
			t.Fatalf("told %v, %v", again, ok)
		}
	}
	if _, is := p.Pinned(2); !is {
		t.Fatal("it has unpinned a session once more")
	}
	wantCounts(t, x, 2, 1, 0)
}

// P13.2, Read: what each kind tells of a leaf that is the root, and of one below it.
func TestRead(t *testing.T) {
	x, p := newTree(t, 100, 10)
	fill(t, x, p, "b", "d")
	wantRun(t, x, get(1, "b"), 3, api.TreeTold{Entry: ref("b", 1), Found: true})
	wantRun(t, x, get(1, "c"), 3, api.TreeTold{})
	wantRun(t, x, add(1, "b", 9), 3, api.TreeTold{Entry: ref("b", 1)})
	wantRun(t, x, remove(1, "c", 1), 3, api.TreeTold{})
	wantRun(t, x, remove(1, "b", 9), 3, api.TreeTold{Entry: ref("b", 1)})
	wantRun(t, x, api.TreeOp{Kind: api.OpRemove, Key: "b", Ref: api.Handle{Slot: 1, Gen: 2}}, 3, api.TreeTold{Entry: ref("b", 1)})
	wantRun(t, x, api.TreeOp{Kind: api.OpRemove, Key: "b"}, 3, api.TreeTold{Entry: ref("b", 1)})
	wantRun(t, x, leafOf(1, ""), 3, api.TreeTold{List: refs("b", "d")})
	wantRun(t, x, leafOf(1, "b"), 3, api.TreeTold{List: refs("b", "d")})
	wantRun(t, x, leafOf(1, "c"), 3, api.TreeTold{List: refs("b", "d")[1:]})
	wantRun(t, x, leafOf(1, "e"), 3, api.TreeTold{})
	wantRun(t, x, shrink(1, "b"), 3, api.TreeTold{})
	wantRun(t, x, remove(1, "b", 1), 5, api.TreeTold{Entry: ref("b", 1), Found: true})
	wantRun(t, x, shrink(1, "b"), 3, api.TreeTold{}) // the root is small, and is left
	wantRun(t, x, get(1, "b"), 3, api.TreeTold{})
	wantAll(t, x, ref("d", 2))

	x, _ = grown(t, 100, 10)
	list := refs(letters(13)...)
	wantRun(t, x, get(1, "a"), 4, api.TreeTold{Entry: list[0], Found: true})
	wantRun(t, x, get(1, "e"), 4, api.TreeTold{Entry: list[4], Found: true})
	wantRun(t, x, get(1, "m"), 4, api.TreeTold{Entry: list[12], Found: true})
	wantRun(t, x, get(1, "ma"), 4, api.TreeTold{})
	wantRun(t, x, leafOf(1, ""), 4, api.TreeTold{List: list[:4], Next: "e", More: true})
	wantRun(t, x, leafOf(1, "dd"), 4, api.TreeTold{Next: "e", More: true})
	wantRun(t, x, leafOf(1, "f"), 4, api.TreeTold{List: list[5:8], Next: "i", More: true})
	wantRun(t, x, leafOf(1, "i"), 4, api.TreeTold{List: list[8:]})
	wantRun(t, x, shrink(1, "b"), 4, api.TreeTold{})
	wantCounts(t, x, 10, 4, 0)
}

// P13.2, Swap: the one that comes second reads the same page again; its node is given back.
func TestSwapMisses(t *testing.T) {
	x, _ := newTree(t, 10, 10)
	a, b := begin(t, x, add(1, "a", 1)), begin(t, x, add(2, "b", 2))
	steps(t, a, 2)
	steps(t, b, 3)
	wantCounts(t, x, 2, 1, 0)
	steps(t, a, 1) // Swap
	wantCounts(t, x, 2, 1, 1)
	wantAll(t, x, ref("b", 2))
	steps(t, a, 2) // Read, Swap
	wantCounts(t, x, 3, 1, 1)
	wantTold(t, finish(t, a), api.TreeTold{Entry: ref("a", 1), Found: true})
	wantTold(t, finish(t, b), api.TreeTold{Entry: ref("b", 2), Found: true})
	if a.Steps() != 7 || b.Steps() != 5 {
		t.Fatalf("%d and %d steps", a.Steps(), b.Steps())
	}
}

// P13.2, Swap: of two that remove one key one has; of two that add one key the second finds it.
func TestSwapOnce(t *testing.T) {
	x, _ := newTree(t, 20, 10)
	a, b := begin(t, x, add(1, "a", 1)), begin(t, x, add(2, "a", 2))
	steps(t, a, 2)
	steps(t, b, 2)
	wantTold(t, finish(t, b), api.TreeTold{Entry: ref("a", 2), Found: true})
	wantTold(t, finish(t, a), api.TreeTold{Entry: ref("a", 2)})
	a, b = begin(t, x, remove(1, "a", 2)), begin(t, x, remove(2, "a", 2))
	steps(t, a, 2)
	steps(t, b, 2)
	wantTold(t, finish(t, a), api.TreeTold{Entry: ref("a", 2), Found: true})
	wantTold(t, finish(t, b), api.TreeTold{})
	if x.Missed() != 2 {
		t.Fatalf("Missed %d", x.Missed())
	}
}

// P13.2, Tidy and Pack: behind the seventh delta a chain is one page; the old nodes wait, the head's first.
func TestPack(t *testing.T) {
	x, p := newTree(t, 20, 10)
	for at, key := range letters(6) {
		wantRun(t, x, add(0, key, at+1), 5, api.TreeTold{Entry: ref(key, at+1), Found: true})
	}
	wantPage(t, x, 0, 6, leaf("", "", 0, refs(letters(6)...)...))
	wantLimbo(t, p)
	wantRun(t, x, add(0, "g", 7), 7, api.TreeTold{Entry: ref("g", 7), Found: true}) // Pin, Read, Swap, Tidy, Pack, Tidy, Out
	wantPage(t, x, 0, 0, leaf("", "", 0, refs(letters(7)...)...))
	wantLimbo(t, p, node(7, 1), node(6, 1), node(5, 1), node(4, 1), node(3, 1), node(2, 1), node(1, 1), node(0, 1))
	wantCounts(t, x, 9, 1, 0)
	sweep(t, x, p)
	wantCounts(t, x, 1, 1, 0)
	wantRun(t, x, add(0, "h", 8), 5, api.TreeTold{Entry: ref("h", 8), Found: true})
	if err := x.Free(node(0, 2)); err != api.OK { // the lowest slot was given anew
		t.Fatalf("Free answered %d", err)
	}
}

// P13.2, Pack: a chain that another one has changed is left, and looked at again.
func TestPackMisses(t *testing.T) {
	x, p := newTree(t, 30, 10)
	for at, key := range letters(6) {
		run(t, x, add(0, key, at+1))
	}
	a := begin(t, x, add(1, "g", 7))
	steps(t, a, 4) // Pin, Read, Swap, Tidy
	b := begin(t, x, remove(2, "a", 1))
	steps(t, b, 3)
	steps(t, a, 1) // Pack
	wantCounts(t, x, 9, 1, 1)
	wantLimbo(t, p)
	steps(t, a, 2) // Tidy, Pack
	wantPage(t, x, 0, 0, leaf("", "", 0, refs(letters(7)...)[1:]...))
	if len(limbo(p)) != 9 {
		t.Fatalf("%v waits", limbo(p))
	}
	finish(t, a)
	finish(t, b)
	wantCounts(t, x, 10, 1, 1)
}

// P13.2, Pack: where there is no room the chain stays, and the operation has done what it was to do.
func TestPackWithoutRoom(t *testing.T) {
	x, p := newTree(t, 8, 10)
	for at, key := range letters(6) {
		run(t, x, add(0, key, at+1))
	}
	wantRun(t, x, add(0, "g", 7), 6, api.TreeTold{Entry: ref("g", 7), Found: true}) // Pin, Read, Swap, Tidy, Pack, Out
	wantPage(t, x, 0, 7, leaf("", "", 0, refs(letters(7)...)...))
	wantLimbo(t, p)
	wantCounts(t, x, 8, 1, 0)
	wantRun(t, x, add(0, "h", 8), 4, api.TreeTold{Err: api.ErrFull})

	x, _ = newTree(t, 20, 10) // free slots that are kept are no room
	for at, key := range letters(6) {
		run(t, x, add(0, key, at+1))
	}
	want(t, "Keep", x.Keep(13), api.OK)
	wantRun(t, x, keptAdd(0, "g", 7), 6, api.TreeTold{Entry: ref("g", 7), Found: true})
	wantPage(t, x, 0, 7, leaf("", "", 0, refs(letters(7)...)...))
	want(t, "Unkeep", x.Unkeep(1), api.OK)
	wantRun(t, x, remove(0, "g", 7), 6, api.TreeTold{Entry: ref("g", 7), Found: true}) // one for its node, none for the page
	want(t, "Unkeep", x.Unkeep(2), api.OK)
	wantRun(t, x, add(0, "g", 8), 7, api.TreeTold{Entry: ref("g", 8), Found: true})
	wantPage(t, x, 0, 0, leaf("", "", 0, append(refs(letters(6)...), ref("g", 8))...))
}

// P13.2, Half, Link, Post, Hang: a leaf is split, and the page above it gets its new key.
func TestSplitOfALeaf(t *testing.T) {
	x, p := newTree(t, 100, 10)
	fill(t, x, p, letters(12)...)
	list := refs(letters(13)...)
	wantPage(t, x, 0, 0, inner("", "", 0, child("", 2), child("e", 1)))
	wantPage(t, x, 1, 3, leaf("e", "", 0, list[4:12]...))
	nodes := x.Nodes()
	f := begin(t, x, add(5, "m", 13))
	steps(t, f, 5) // Pin, Read, Read, Swap, Tidy
	wantCounts(t, x, nodes+1, 3, 0)
	steps(t, f, 1) // Half: nobody knows the new page yet
	wantCounts(t, x, nodes+2, 4, 0)
	wantPage(t, x, 3, 0, leaf("i", "", 0, list[8:]...))
	wantPage(t, x, 1, 4, leaf("e", "", 0, list[4:]...))
	steps(t, f, 1) // Link
	wantCounts(t, x, nodes+3, 4, 0)
	wantPage(t, x, 1, 5, leaf("e", "i", 3, list[4:8]...))
	wantAll(t, x, list...)
	steps(t, f, 1) // Post
	wantCounts(t, x, nodes+3, 4, 0)
	wantPage(t, x, 0, 0, inner("", "", 0, child("", 2), child("e", 1)))
	steps(t, f, 1) // Hang
	wantPage(t, x, 0, 1, inner("", "", 0, child("", 2), child("e", 1), child("i", 3)))
	steps(t, f, 1) // Tidy
	if !f.Step() || f.Steps() != 11 {
		t.Fatalf("%d steps", f.Steps())
	}
	wantLimbo(t, p)
}

// P13.2, Half: what parts the halves of a leaf is as short as can be.
func TestSplitParts(t *testing.T) {
	x, p := newTree(t, 100, 10)
	fill(t, x, p, "aaaa", "aaab", "aabb", "abbb", "baaa", "bbbb", "bbbc", "c", "d")
	wantPage(t, x, 0, 0, inner("", "", 0, child("", 2), child("b", 1)))
}

// P13.2, Half: without a free page, or room, the leaf stays as it is; what was begun is given back.
func TestHalfWithoutRoom(t *testing.T) {
	x, p := newTree(t, 100, 3)
	fill(t, x, p, letters(12)...)
	nodes, list := x.Nodes(), refs(letters(13)...)
	wantRun(t, x, add(0, "m", 13), 7, api.TreeTold{Entry: list[12], Found: true}) // Pin, Read, Read, Swap, Tidy, Half, Out
	wantCounts(t, x, nodes+1, 3, 0)
	wantPage(t, x, 1, 4, leaf("e", "", 0, list[4:]...))

	x, p = newTree(t, 100, 10)
	fill(t, x, p, letters(12)...)
	want(t, "Keep", x.Keep(100-x.Nodes()-1), api.OK)
	wantRun(t, x, add(0, "m", 13), 7, api.TreeTold{Entry: list[12], Found: true})
	wantCounts(t, x, nodes+1, 3, 0)
	wantPage(t, x, 1, 4, leaf("e", "", 0, list[4:]...))
	wantLimbo(t, p)
}

// P13.2, Link: without room for the delta the new page is given back, and all is as ahead of it.
func TestLinkWithoutRoom(t *testing.T) {
	x, p := newTree(t, 100, 10)
	fill(t, x, p, letters(12)...)
	nodes, list := x.Nodes(), refs(letters(13)...)
	want(t, "Keep", x.Keep(100-nodes-2), api.OK)
	f := begin(t, x, add(0, "m", 13))
	steps(t, f, 6)
	wantCounts(t, x, nodes+2, 4, 0)
	steps(t, f, 1) // Link
	wantCounts(t, x, nodes+1, 3, 0)
	wantPage(t, x, 1, 4, leaf("e", "", 0, list[4:]...))
	if !f.Step() || f.Steps() != 8 {
		t.Fatalf("%d steps", f.Steps())
	}
	wantLimbo(t, p)
	wantTold(t, finish(t, f), api.TreeTold{Entry: list[12], Found: true})
}

// P13.2, Link: a page that another one has changed is looked at again; the new page is given back, and its number given anew.
func TestLinkMisses(t *testing.T) {
	x, p := newTree(t, 100, 10)
	fill(t, x, p, letters(12)...)
	nodes, list := x.Nodes(), refs(letters(14)...)
	a := begin(t, x, add(1, "m", 13))
	steps(t, a, 6)
	b := begin(t, x, add(2, "n", 14))
	steps(t, b, 4)
	steps(t, a, 1) // Link
	wantCounts(t, x, nodes+2, 3, 1)
	steps(t, a, 3) // Tidy, Half, Link
	wantPage(t, x, 1, 6, leaf("e", "j", 3, list[4:9]...))
	wantPage(t, x, 3, 0, leaf("j", "", 0, list[9:]...))
	finish(t, a)
	finish(t, b)
	wantPage(t, x, 0, 1, inner("", "", 0, child("", 2), child("e", 1), child("j", 3)))
	wantLimbo(t, p)
	wantAll(t, x, list...)
}

// P13.2, Read, Lag, Post: one that must go to the right hangs what the page above does not know; the one that was late lets go.
func TestGoingRight(t *testing.T) {
	x, p := newTree(t, 100, 10)
	fill(t, x, p, letters(12)...)
	a := begin(t, x, add(1, "m", 13))
	steps(t, a, 7)                                                                          // up to Link
	wantRun(t, x, get(2, "f"), 4, api.TreeTold{Entry: refs(letters(6)...)[5], Found: true}) // it need not go to the right
	wantPage(t, x, 0, 0, inner("", "", 0, child("", 2), child("e", 1)))
	wantRun(t, x, get(2, "m"), 8, api.TreeTold{Entry: ref("m", 13), Found: true}) // Pin, Read, Read, Read, Post, Hang, Tidy, Out
	wantPage(t, x, 0, 1, inner("", "", 0, child("", 2), child("e", 1), child("i", 3)))
	nodes := x.Nodes()
	steps(t, a, 1) // Post: it is there
	if !a.Step() || a.Steps() != 9 {
		t.Fatalf("%d steps", a.Steps())
	}
	wantCounts(t, x, nodes, 4, 0)
	wantRun(t, x, get(2, "m"), 4, api.TreeTold{Entry: ref("m", 13), Found: true})
}

// P13.2, Hang: one whose swap is missed looks at the page again, and lets go, if it has the key.
func TestHangMisses(t *testing.T) {
	x, p := newTree(t, 100, 10)
	fill(t, x, p, letters(12)...)
	a, b := begin(t, x, add(1, "m", 13)), begin(t, x, get(2, "m"))
	steps(t, a, 8) // up to Post
	steps(t, b, 6) // Pin, Read, Read, Read, Post, Hang
	nodes := x.Nodes()
	steps(t, a, 1) // Hang
	wantCounts(t, x, nodes, 4, 1)
	steps(t, a, 1) // Post
	if !a.Step() || a.Steps() != 11 {
		t.Fatalf("%d steps", a.Steps())
	}
	finish(t, b)
	wantPage(t, x, 0, 1, inner("", "", 0, child("", 2), child("e", 1), child("i", 3)))
}

// P13.2, Hang: where there is no room the page above is not told, and the next one that comes by tells it.
func TestHangWithoutRoom(t *testing.T) {
	x, p := newTree(t, 100, 10)
	fill(t, x, p, letters(12)...)
	nodes := x.Nodes()
	want(t, "Keep", x.Keep(100-nodes-3), api.OK)
	wantRun(t, x, add(0, "m", 13), 10, api.TreeTold{Entry: ref("m", 13), Found: true}) // .., Link, Post, Hang, Out
	wantCounts(t, x, nodes+3, 4, 0)
	wantPage(t, x, 0, 0, inner("", "", 0, child("", 2), child("e", 1)))
	wantRun(t, x, get(0, "m"), 7, api.TreeTold{Entry: ref("m", 13), Found: true}) // Pin, Read, Read, Read, Post, Hang, Out
	want(t, "Unkeep", x.Unkeep(1), api.OK)
	wantRun(t, x, get(0, "m"), 8, api.TreeTold{Entry: ref("m", 13), Found: true})
	wantPage(t, x, 0, 1, inner("", "", 0, child("", 2), child("e", 1), child("i", 3)))
	wantRun(t, x, get(0, "m"), 4, api.TreeTold{Entry: ref("m", 13), Found: true})
}

// P13.2, Swap: an error ends it at once, whatever lags.
func TestErrorLetsLagsGo(t *testing.T) {
	x, p := newTree(t, 100, 10)
	fill(t, x, p, letters(12)...)
	a := begin(t, x, add(1, "m", 13))
	steps(t, a, 7)
	want(t, "Keep", x.Keep(100-x.Nodes()), api.OK)
	wantRun(t, x, add(2, "n", 14), 6, api.TreeTold{Err: api.ErrFull}) // Pin, Read, Read, Read, Swap, Out
	wantPage(t, x, 0, 0, inner("", "", 0, child("", 2), child("e", 1)))
}

// P13.2, Swap: one that misses its swap behind going to the right reads the same page again, and hangs what lags.
func TestSwapMissesOnTheRight(t *testing.T) {
	x, p := newTree(t, 200, 20)
	fill(t, x, p, letters(12)...)
	a := begin(t, x, add(1, "m", 13))
	steps(t, a, 7) // the page 1 was split at i
	b := begin(t, x, add(2, "n", 14))
	steps(t, b, 3) // it is at the page 3, and has seen none of it
	steps(t, b, 1) // Read
	c := begin(t, x, add(3, "o", 15))
	steps(t, c, 5) // up to Swap
	steps(t, b, 1) // Swap: missed
	steps(t, b, 2) // Read, Swap
	wantTold(t, finish(t, b), api.TreeTold{Entry: ref("n", 14), Found: true})
	if b.Steps() != 12 { // .., Tidy, Post, Hang, Tidy, Out
		t.Fatalf("%d steps", b.Steps())
	}
	finish(t, a)
	finish(t, c)
	wantPage(t, x, 0, 1, inner("", "", 0, child("", 2), child("e", 1), child("i", 3)))
}

// P13.2, Read: what lags already does not lag twice: a search that begins anew comes by the same page again. (Sessions are unpinned by who has the epoch, so that a leaf can be merged away ahead of it.)
func TestLagsOnce(t *testing.T) {
	p := newPair(t, 200, 20)
	for at, key := range letters(12) {
		p.run(add(0, key, at+1))
	}
	for at, key := range letters(17)[12:] {
		p.leave(add(0, key, at+13), "Post")
	}
	for at, key := range letters(16)[12:] {
		p.leave(remove(0, key, at+13), "Post")
	}
	wantPage(t, p.x, 0, 0, inner("", "", 0, child("", 2), child("e", 1)))
	if q, _, _ := p.x.Page(4); !equal(q, leaf("m", "", 0, ref("q", 17))) {
		t.Fatalf("the page 4 is %v", q)
	}
	w := p.begin(get(1, "q"))
	for range 4 { // Pin, and the pages 0, 1, 3
		p.step(w)
	}
	p.unpin(1)
	p.leave(shrink(2, "q"), "Tidy") // behind Near
	p.some(w, -1)                   // the pages 4, 0, 1, 3; Post, Hang, Tidy of 3; Post of 4, which is gone; Out
	if w.f.Steps() != 13 {
		t.Fatalf("%d steps", w.f.Steps())
	}
}

// P13.2, Lag: what lags is taken up in the order in which it came to lag: what was passed by on the way to a leaf ahead of what the leaf's own split made.
func TestLagsInOrder(t *testing.T) {
	p := newPair(t, 200, 20)
	for at, key := range letters(12) {
		p.run(add(0, key, at+1))
	}
	for at, key := range letters(16)[12:] { // the page 3 is linked at i, and not hung
		p.leave(add(0, key, at+13), "Post")
	}
	w := p.begin(add(1, "q", 17))
	for w.o.at != "Tidy" {
		p.step(w)
	}
	for range 4 { // Tidy, Half, Link, Post
		p.step(w)
	}
	wantPage(t, p.x, 0, 0, inner("", "", 0, child("", 2), child("e", 1)))
	p.step(w) // Hang
	wantPage(t, p.x, 0, 1, inner("", "", 0, child("", 2), child("e", 1), child("i", 3)))
	for range 3 { // Tidy, Post, Hang
		p.step(w)
	}
	wantPage(t, p.x, 0, 2, inner("", "", 0, child("", 2), child("e", 1), child("i", 3), child("m", 4)))
	p.some(w, -1)
}

// P13.3: the root's halves are new pages; a root without room for one of them, or for the page that names them, stays.
func TestHalfOfTheRoot(t *testing.T) {
	list := refs(letters(9)...)
	for left, n := range []int64{5 + 1, 5 + 1, 5 + 2, 5 + 2} { // how many free slots the halves find, and how many steps it is
		x, p := newTree(t, 100, 10)
		fill(t, x, p, letters(8)...)
		nodes := x.Nodes()
		want(t, "Keep", x.Keep(100-nodes-1-left), api.OK)
		wantRun(t, x, add(0, "i", 9), n, api.TreeTold{Entry: list[8], Found: true})
		if left < 3 {
			wantCounts(t, x, nodes+1, 1, 0)
			wantPage(t, x, 0, 2, leaf("", "", 0, list...))
			wantLimbo(t, p)
			continue
		}
		wantCounts(t, x, nodes+4, 3, 0)
		wantPage(t, x, 0, 0, inner("", "", 0, child("", 2), child("e", 1)))
		wantLimbo(t, p, node(0, 2), node(9, 1), node(8, 1))
	}
}

// P13.3: without two free pages the root stays, and grows.
func TestHalfOfTheRootWithoutPages(t *testing.T) {
	for _, pages := range []int{1, 2} {
		x, p := newTree(t, 100, pages)
		fill(t, x, p, letters(26)...)
		if x.Pages() != 1 {
			t.Fatalf("%d pages", x.Pages())
		}
		got, _, _ := x.Page(0)
		if !equal(got, leaf("", "", 0, refs(letters(26)...)...)) {
			t.Fatalf("the root is %v", got)
		}
		if x.Nodes() > 8 {
			t.Fatalf("%d nodes", x.Nodes())
		}
	}
}

// P13.3: a root that another one has changed is looked at again, and all is given back.
func TestLinkOfTheRootMisses(t *testing.T) {
	x, p := newTree(t, 100, 10)
	fill(t, x, p, letters(8)...)
	nodes := x.Nodes()
	a, b := begin(t, x, add(1, "i", 9)), begin(t, x, add(2, "j", 10))
	steps(t, a, 5) // Pin, Read, Swap, Tidy, Half
	wantCounts(t, x, nodes+3, 3, 0)
	wantPage(t, x, 0, 2, leaf("", "", 0, refs(letters(9)...)...))
	steps(t, b, 3)
	steps(t, a, 1) // Link
	wantCounts(t, x, nodes+2, 1, 1)
	wantLimbo(t, p)
	finish(t, a)
	if a.Steps() != 10 { // Tidy, Half, Link, Out
		t.Fatalf("%d steps", a.Steps())
	}
	finish(t, b)
	if b.Steps() != 5 {
		t.Fatalf("%d steps", b.Steps())
	}
	list := refs(letters(10)...)
	wantPage(t, x, 0, 0, inner("", "", 0, child("", 2), child("f", 1)))
	wantPage(t, x, 1, 0, leaf("f", "", 0, list[5:]...))
	wantPage(t, x, 2, 0, leaf("", "f", 1, list[:5]...))
}

// P13.3: an inner root is split like a leaf; the way to the leaves is one page longer.
func TestSplitOfAnInnerRoot(t *testing.T) {
	x, p := newTree(t, 400, 40)
	var keys []string
	for _, key := range letters(26) {
		keys = append(keys, key, key+"x")
	}
	for at, key := range keys {
		run(t, x, add(0, key, at+1))
		sweep(t, x, p)
	}
	top, _, _ := x.Page(0)
	if top.Leaf || len(top.List) != 2 || top.Low != "" || top.High != "" || top.Right != 0 {
		t.Fatalf("the root is %v", top)
	}
	left, _, _ := x.Page(top.List[0].Child)
	right, _, _ := x.Page(top.List[1].Child)
	if left.Leaf || right.Leaf || left.Low != "" || left.High != top.List[1].Key || right.Low != left.High || right.High != "" || left.Right != top.List[1].Child || right.Right != 0 {
		t.Fatalf("the halves are %v and %v", left, right)
	}
	if right.List[0].Key != right.Low || len(left.List) != 4 {
		t.Fatalf("the halves are %v and %v", left, right)
	}
	for at, key := range keys {
		wantRun(t, x, get(1, key), 5, api.TreeTold{Entry: ref(key, at+1), Found: true})
	}
	wantAll(t, x, refs(keys...)...)
}

// small is the tree of grown in which the leaf of e has just so many of its keys.
func small(t *testing.T, nodes, many int) (*tree.Tree, *epoch.Epoch) {
	t.Helper()
	x, p := grown(t, nodes, 10)
	for at := 4 + many; at < 8; at++ {
		run(t, x, remove(0, letters(8)[at], at+1))
	}
	sweep(t, x, p)
	return x, p
}

// P13.4: a small leaf is merged into the one to its left: what it had, its key in the page above, its nodes, its number.
func TestMerge(t *testing.T) {
	x, p := small(t, 100, 1)
	list := refs(letters(13)...)
	wantPage(t, x, 1, 1, leaf("e", "i", 3, list[4]))
	if x.Nodes() != 6 {
		t.Fatalf("%d nodes", x.Nodes())
	}
	f := begin(t, x, shrink(4, "g"))
	steps(t, f, 3) // Pin, Read, Read
	wantCounts(t, x, 6, 4, 0)
	steps(t, f, 1) // Near
	wantCounts(t, x, 8, 3, 0)
	wantPage(t, x, 2, 1, leaf("", "i", 3, list[:5]...))
	wantPage(t, x, 0, 2, inner("", "", 0, child("", 2), child("i", 3)))
	wantNoPage(t, x, 1, api.ErrNone)
	waits := limbo(p)
	if len(waits) != 3 || waits[2] != number(1) || waits[0].Kind != api.ReNode || waits[1].Kind != api.ReNode {
		t.Fatalf("%v waits", waits)
	}
	steps(t, f, 1) // Tidy
	wantTold(t, finish(t, f), api.TreeTold{Found: true})
	if f.Steps() != 6 {
		t.Fatalf("%d steps", f.Steps())
	}
	wantAll(t, x, append(slices.Clone(list[:5]), list[8:]...)...)
	wantRun(t, x, get(0, "e"), 4, api.TreeTold{Entry: list[4], Found: true})
	want(t, "Free", x.Free(number(1)), api.OK) // its number may be given anew
	want(t, "Free", x.Free(number(1)), api.ErrNone)
	want(t, "Free", x.Free(waits[0]), api.OK)
	want(t, "Free", x.Free(waits[1]), api.OK)
	wantCounts(t, x, 6, 3, 0)
}

// P13.4: an empty leaf is merged, too; a leaf with PageLeast entries is not.
func TestMergeBySize(t *testing.T) {
	for many := range 4 {
		x, _ := small(t, 100, many)
		wanted := int64(4)
		if many < 2 {
			wanted = 6
		}
		wantRun(t, x, shrink(0, "e"), wanted, api.TreeTold{Found: many < 2})
		if got := x.Pages(); (got == 3) != (many < 2) {
			t.Fatalf("%d pages", got)
		}
	}
}

// P13.4: nothing is done while another session is pinned, be it at the tree or not.
func TestNoMergeBesideOthers(t *testing.T) {
	for s := range api.Sessions + 1 {
		if s == 4 {
			continue
		}
		x, p := small(t, 100, 1)
		f := begin(t, x, shrink(4, "e"))
		steps(t, f, 3)
		p.Pin(s)
		wantTold(t, finish(t, f), api.TreeTold{})
		if f.Steps() != 5 {
			t.Fatalf("%d steps", f.Steps())
		}
		wantCounts(t, x, 6, 4, 0)
		p.Unpin(s)
		wantRun(t, x, shrink(4, "e"), 6, api.TreeTold{Found: true})
	}
}

// P13.4: nothing is done, if the leaf was changed since it was seen.
func TestNoMergeOfAChangedLeaf(t *testing.T) {
	x, _ := small(t, 100, 1)
	f := begin(t, x, shrink(4, "e"))
	steps(t, f, 3)
	run(t, x, add(5, "ee", 9))
	wantTold(t, finish(t, f), api.TreeTold{})
	if f.Steps() != 5 || x.Pages() != 4 {
		t.Fatalf("%d steps, %d pages", f.Steps(), x.Pages())
	}
}

// P13.4: the first leaf has none to its left.
func TestNoMergeOfTheFirst(t *testing.T) {
	x, p := grown(t, 100, 10)
	for at, key := range letters(4) {
		run(t, x, remove(0, key, at+1))
	}
	sweep(t, x, p)
	nodes := x.Nodes()
	wantRun(t, x, shrink(0, "a"), 5, api.TreeTold{})
	wantCounts(t, x, nodes, 4, 0)
	wantLimbo(t, p)
}

// P13.4: together they may have PageMost entries, and no more.
func TestMergeOfManyEntries(t *testing.T) {
	for many, key := range []string{"aa", "ab", "ac", "ad"} {
		x, p := small(t, 100, 1)
		for i := range many + 1 {
			run(t, x, add(0, []string{"aa", "ab", "ac", "ad"}[i], 20+i))
		}
		sweep(t, x, p)
		wanted := many < 3 // four, one and many + 1
		n := int64(5)
		if wanted {
			n = 6
		}
		wantRun(t, x, shrink(0, "e"), n, api.TreeTold{Found: wanted})
		if got := len(all(x)); got != 10+many+1 {
			t.Fatalf("%d entries behind %s", got, key)
		}
	}
}

// P13.4: there must be room for a node of the left page, and for one of each entry.
func TestMergeNeedsRoom(t *testing.T) {
	for left := range 4 {
		x, p := small(t, 100, 1)
		nodes := x.Nodes()
		want(t, "Keep", x.Keep(100-nodes-left), api.OK)
		told := run(t, x, shrink(0, "e"))
		wantTold(t, told, api.TreeTold{Found: left >= 2})
		if left < 2 {
			wantCounts(t, x, nodes, 4, 0)
			wantLimbo(t, p)
		} else {
			wantCounts(t, x, nodes+2, 3, 0)
		}
	}
}

// P13.4: a leaf that no page above knows yet is merged without an entry being removed.
func TestMergeOfWhatIsNotHung(t *testing.T) {
	x, p := newTree(t, 100, 10)
	fill(t, x, p, letters(12)...)
	rootStays := func() {
		t.Helper()
		wantPage(t, x, 0, 0, inner("", "", 0, child("", 2), child("e", 1)))
	}
	a := begin(t, x, add(1, "m", 13))
	steps(t, a, 7) // the page 3 is linked, and not hung
	for at := 8; at < 12; at++ {
		b := begin(t, x, remove(2, letters(12)[at], at+1))
		steps(t, b, 5)
		p.Unpin(2) // it is left there
	}
	rootStays()
	p.Unpin(1)
	wantRun(t, x, shrink(3, "m"), 8, api.TreeTold{Found: true}) // Pin, Read, Read, Read, Near, Tidy, .. what lags is gone
	rootStays()
	wantNoPage(t, x, 3, api.ErrNone)
	wantAll(t, x, append(refs(letters(8)...), ref("m", 13))...)
	p.Pin(1)
	wantTold(t, finish(t, a), api.TreeTold{Entry: ref("m", 13), Found: true})
	rootStays()
}

// P13.4: a tree whose nodes were freed while they were in use is left alone.
func TestNoMergeOfWhatCannotBeRead(t *testing.T) {
	for n := range 4 {
		x, p := small(t, 100, 1)
		f := begin(t, x, shrink(4, "e"))
		steps(t, f, 3)
		want(t, "Free", x.Free(bases(t)[n]), api.OK)
		nodes := x.Nodes()
		wantTold(t, finish(t, f), api.TreeTold{})
		if x.Nodes() != nodes || x.Pages() != 4 {
			t.Fatalf("%d nodes, %d pages", x.Nodes(), x.Pages())
		}
		wantLimbo(t, p)
	}
}

// bases is a node of each of four pages without which it can't be read: the first that is found.
func bases(t *testing.T) []api.Retired {
	t.Helper()
	list := make([]api.Retired, 4)
	y, _ := small(t, 100, 1) // one like it, which is spoilt in finding out
	for slot := range 100 {
		for gen := range int64(9) {
			if y.Free(node(slot, gen)) != api.OK {
				continue
			}
			for n := range list {
				if _, _, e := y.Page(n); e == api.ErrStale && list[n].Kind == 0 {
					list[n] = node(slot, gen)
				}
			}
		}
	}
	return list
}

// P13.4: the left page is tidied: of a long chain it is made one page.
func TestMergeTidies(t *testing.T) {
	x, p := small(t, 100, 1)
	for i, key := range []string{"aa", "aa", "aa", "aa", "aa", "aa"} {
		if i%2 == 0 {
			run(t, x, add(0, key, 20))
		} else {
			run(t, x, remove(0, key, 20))
		}
	}
	wantPage(t, x, 2, 6, leaf("", "e", 1, refs(letters(4)...)...))
	sweep(t, x, p)
	wantRun(t, x, shrink(0, "e"), 8, api.TreeTold{Found: true}) // Pin, Read, Read, Near, Tidy, Pack, Tidy, Out
	wantPage(t, x, 2, 0, leaf("", "i", 3, refs(letters(5)...)...))
}

// P13.2, Read and Tidy: a page that is live no more is left: the search begins anew, and nothing is tidied. (That sessions are unpinned by who has the epoch lets others merge it away.)
func TestPagesThatGo(t *testing.T) {
	x, p := small(t, 100, 1)
	a, b := begin(t, x, get(1, "e")), begin(t, x, add(2, "ea", 30))
	steps(t, a, 2) // it is about to read the page 1
	p.Unpin(1)
	run(t, x, shrink(3, "e"))
	p.Pin(1)
	wantTold(t, finish(t, a), api.TreeTold{Entry: ref("e", 5), Found: true})
	if a.Steps() != 6 { // Pin, Read, Read, Read, Read, Out
		t.Fatalf("%d steps", a.Steps())
	}
	finish(t, b)

	x, p = small(t, 100, 0)
	b = begin(t, x, add(2, "ea", 30))
	steps(t, b, 4) // up to Swap: Tidy is next
	p.Unpin(2)
	run(t, x, shrink(3, "e"))
	wantNoPage(t, x, 1, api.ErrNone)
	p.Pin(2)
	wantTold(t, finish(t, b), api.TreeTold{Entry: ref("ea", 30), Found: true})
	if b.Steps() != 6 {
		t.Fatalf("%d steps", b.Steps())
	}

	x, p = small(t, 100, 1)
	b = begin(t, x, add(2, "ea", 30))
	steps(t, b, 3) // up to Read of the leaf: Swap is next
	p.Unpin(2)
	run(t, x, shrink(3, "e"))
	p.Pin(2)
	steps(t, b, 1)
	if x.Missed() != 0 { // there was no head to be missed
		t.Fatalf("Missed %d", x.Missed())
	}
	wantTold(t, finish(t, b), api.TreeTold{Entry: ref("ea", 30), Found: true})
	if b.Steps() != 10 { // .., Swap, Read, Read, Read, Swap, Tidy, Out
		t.Fatalf("%d steps", b.Steps())
	}

	x, p = small(t, 100, 1)
	c := begin(t, x, shrink(2, "e"))
	steps(t, c, 3) // Near is next
	p.Unpin(2)
	run(t, x, shrink(3, "e"))
	p.Pin(2)
	wantTold(t, finish(t, c), api.TreeTold{})
	if x.Stale() != 0 {
		t.Fatalf("Stale %d", x.Stale())
	}
}

// P13.2, Read: a key below the page's Low sends the search to the root again: a number that was given anew has another range.
func TestBelowTheLow(t *testing.T) {
	x, p := small(t, 200, 1)
	a := begin(t, x, get(1, "e"))
	steps(t, a, 2) // it is about to read the page 1
	p.Unpin(1)
	run(t, x, shrink(3, "e"))
	sweep(t, x, p)
	for i, key := range []string{"n", "o", "p", "q"} {
		run(t, x, add(3, key, 40+i))
	}
	sweep(t, x, p)
	q, _, _ := x.Page(1)
	if q.Low <= "e" {
		t.Fatalf("the page 1 is %v", q)
	}
	p.Pin(1)
	wantTold(t, finish(t, a), api.TreeTold{Entry: ref("e", 5), Found: true})
	if a.Steps() != 6 {
		t.Fatalf("%d steps", a.Steps())
	}
}

// P13.2, Post: what lags is let go, if its number was given anew, to a page with another Low.
func TestPostOfANumberGivenAnew(t *testing.T) {
	x, p := newTree(t, 200, 20)
	fill(t, x, p, letters(12)...)
	a := begin(t, x, add(1, "m", 13))
	steps(t, a, 7) // the page 3 is linked at i, and lags
	p.Unpin(1)
	for at, key := range letters(13)[8:] {
		run(t, x, remove(0, key, at+9))
	}
	wantTold(t, run(t, x, shrink(0, "m")), api.TreeTold{Found: true})
	sweep(t, x, p)
	for i, key := range []string{"aa", "ab", "ac", "ad", "ae"} {
		run(t, x, add(0, key, 20+i))
	}
	sweep(t, x, p)
	q, _, e := x.Page(3)
	if e != api.OK || q.Low == "i" || q.Low == "" {
		t.Fatalf("the page 3 is %v, %d", q, e)
	}
	top, _, _ := x.Page(0)
	p.Pin(1)
	wantTold(t, finish(t, a), api.TreeTold{Entry: ref("m", 13), Found: true})
	if now, _, _ := x.Page(0); !equal(now, top) || a.Steps() != 9 || x.Stale() != 0 {
		t.Fatalf("the root is %v, was %v; %d steps, Stale %d", now, top, a.Steps(), x.Stale())
	}
}
