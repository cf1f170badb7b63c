package tree_test

import (
	"fmt"
	"iter"
	"math"
	"math/rand/v2"
	"slices"
	"strconv"
	"testing"
	"time"

	"cresset/api"
	"cresset/epoch"
	"cresset/sched"
	"cresset/tree"
)

// The calls that the chapter lists keep their signatures.
var (
	_ func(int, int, *epoch.Epoch) (*tree.Tree, api.Errno) = tree.New
	_ func(*tree.Tree, api.TreeOp) (*tree.Op, api.Errno)   = (*tree.Tree).Op
	_ func(*tree.Tree, api.Retired) api.Errno              = (*tree.Tree).Free
	_ func(*tree.Tree, int) (api.Page, int, api.Errno)     = (*tree.Tree).Page
	_ func(*tree.Tree) iter.Seq[api.Entry]                 = (*tree.Tree).All
	_ func(*tree.Tree) int                                 = (*tree.Tree).Nodes
	_ func(*tree.Tree) int                                 = (*tree.Tree).Pages
	_ func(*tree.Tree) int64                               = (*tree.Tree).Stale
	_ func(*tree.Tree) int64                               = (*tree.Tree).Missed
	_ func(*tree.Tree, int) api.Errno                      = (*tree.Tree).Keep
	_ func(*tree.Tree, int) api.Errno                      = (*tree.Tree).Unkeep
	_ func(*tree.Tree) int                                 = (*tree.Tree).Kept
	_ func(*tree.Op) bool                                  = (*tree.Op).Step
	_ func(*tree.Op) (api.TreeTold, bool)                  = (*tree.Op).Told
	_ func(*tree.Op) int64                                 = (*tree.Op).Steps
	_ sched.Fiber                                          = (*tree.Op)(nil)
)

func TestNumbers(t *testing.T) {
	numbers := []int{api.OpGet, api.OpAdd, api.OpRemove, api.OpLeaf, api.OpShrink, api.ReNode, api.RePage}
	if wanted := []int{1, 2, 3, 4, 5, 1, 2}; !slices.Equal(numbers, wanted) {
		t.Errorf("the numbers are %v, want %v", numbers, wanted)
	}
}

// R5: a tree that no call made answers ErrMade ahead of all, and nothing else; nothing makes it one.
func TestATreeThatNoCallMade(t *testing.T) {
	for _, x := range []*tree.Tree{nil, {}} {
		for range 2 {
			for _, o := range []api.TreeOp{{}, add(0, "a", 1), get(-1, "")} {
				if f, e := x.Op(o); f != nil || e != api.ErrMade {
					t.Errorf("Op(%v) = %v, %d", o, f, e)
				}
			}
			for _, n := range []int{0, 1, -1, math.MaxInt, math.MinInt} {
				want(t, "Free", x.Free(number(n)), api.ErrMade)
				want(t, "Free", x.Free(node(n, 1)), api.ErrMade)
				want(t, "Free", x.Free(api.Retired{Kind: n}), api.ErrMade)
				want(t, "Keep", x.Keep(n), api.ErrMade)
				want(t, "Unkeep", x.Unkeep(n), api.ErrMade)
				wantNoPage(t, x, n, api.ErrMade)
			}
			wantAll(t, x)
			wantCounts(t, x, 0, 0, 0)
			if x.Kept() != 0 {
				t.Errorf("Kept is %d", x.Kept())
			}
		}
	}
}

// R5: a fiber that no call made has finished, and has nothing to tell.
func TestAFiberThatNoCallMade(t *testing.T) {
	for _, f := range []*tree.Op{nil, {}} {
		for range 3 {
			told, ok := f.Told()
			if !f.Step() || ok || !equalTold(told, api.TreeTold{}) || f.Steps() != 0 {
				t.Errorf("it told %v, %v behind %d steps", told, ok, f.Steps())
			}
		}
	}
}

// R1: each call ends without a panic at all arguments, of trees in which whatever there is was freed, in use or not.
func TestAnyArguments(t *testing.T) {
	t.Parallel()
	numbers := []int{0, 1, 2, 5, 16, 17, -1, math.MaxInt, math.MinInt}
	texts := []string{"", "a", "\xff", "m", string(make([]byte, 64)), string(make([]byte, 65))}
	for seed := range uint64(150) {
		r := rand.New(rand.NewPCG(seed, 1))
		e := epoch.New()
		x, _ := tree.New(1+r.IntN(60), 1+r.IntN(12), e)
		some := func() int {
			if r.IntN(2) == 0 {
				return r.IntN(20)
			}
			return numbers[r.IntN(len(numbers))]
		}
		var fibers []*tree.Op
		for range 400 {
			switch r.IntN(9) {
			case 0:
				x.Free(api.Retired{Kind: 1 + r.IntN(2), Handle: api.Handle{Slot: some(), Gen: int64(r.IntN(4))}})
			case 1:
				x.Keep(some())
			case 2:
				x.Unkeep(some())
			case 3:
				x.Page(some())
				all(x)
			case 4:
				e.Unpin(some())
				e.Advance()
			default:
				o := api.TreeOp{Kind: some() % 7, Session: some() % 20, Key: texts[r.IntN(len(texts))], Ref: api.Handle{Slot: some(), Gen: int64(some())}, Kept: r.IntN(4) == 0}
				if r.IntN(4) > 0 {
					o = someOp(r, r.IntN(17), letters(20))
				}
				if f, err := x.Op(o); err == api.OK {
					fibers = append(fibers, f)
				}
			}
			for range 5 {
				if len(fibers) > 0 {
					f := fibers[max(0, len(fibers)-1-r.IntN(6))]
					f.Step()
					f.Told()
				}
			}
		}
	}
}

// What is stale is told: a leaf whose nodes were freed while they were in use is an error of the search, and nothing is changed.
func TestStaleIsTold(t *testing.T) {
	for _, o := range []api.TreeOp{get(0, "a"), add(0, "b", 1), remove(0, "a", 1), leafOf(0, ""), shrink(0, "a")} {
		x, e := newTree(t, 10, 10)
		run(t, x, add(0, "a", 1))
		want(t, "Free", x.Free(node(0, 1)), api.OK)
		wantRun(t, x, o, 3, api.TreeTold{Err: api.ErrStale})
		if _, is := e.Pinned(0); is || x.Stale() != 1 || x.Nodes() != 1 {
			t.Errorf("pinned %v, Stale %d, Nodes %d", is, x.Stale(), x.Nodes())
		}
	}
}

// R3: what is answered is nobody's else: writing to it changes neither the tree nor what is answered again.
func TestWhatIsAnswered(t *testing.T) {
	spoil := func(list []api.Entry) {
		for at := range list {
			list[at] = ref("spoilt", 99)
		}
		_ = append(list, ref("spoilt", 98))
	}
	for _, many := range []int{3, 7, 13} { // a chain with deltas, one without, several pages
		x, p := newTree(t, 100, 10)
		fill(t, x, p, letters(many)...)
		list := refs(letters(many)...)
		f := begin(t, x, leafOf(1, ""))
		first := finish(t, f)
		wanted := slices.Clone(first.List)
		spoil(first.List)
		again, _ := f.Told()
		if !slices.Equal(again.List, wanted) {
			t.Fatalf("told %v, want %v", again.List, wanted)
		}
		spoil(again.List)
		for n := range 10 {
			q, _, _ := x.Page(n)
			spoil(q.List)
		}
		wantAll(t, x, list...)
		spoil(all(x))
		wantAll(t, x, list...)
		wantTold(t, run(t, x, leafOf(1, "")), api.TreeTold{List: wanted, Next: first.Next, More: first.More})
	}
}

// R3: a list that was told stays as it was told, whatever the tree does then.
func TestWhatWasToldStays(t *testing.T) {
	x, p := newTree(t, 100, 10)
	fill(t, x, p, letters(8)...)
	f := begin(t, x, leafOf(1, ""))
	told := finish(t, f)
	for at, key := range letters(8) {
		run(t, x, remove(0, key, at+1))
		run(t, x, add(0, key, 50))
	}
	if again, _ := f.Told(); !slices.Equal(told.List, refs(letters(8)...)) || !slices.Equal(again.List, told.List) {
		t.Fatalf("told %v and %v", told.List, again.List)
	}
}

// R6: the same calls answer the same.
func TestTheSameAgain(t *testing.T) {
	once := func() string {
		r := rand.New(rand.NewPCG(5, 5))
		x, e := newTree(t, 150, 30)
		var list []any
		for range 30 {
			list = append(list, race(t, r, x, e, letters(26), 8), all(x), limbo(e), x.Nodes(), x.Pages(), x.Missed())
			for n := range 30 {
				p, deltas, err := x.Page(n)
				list = append(list, p, deltas, err)
			}
		}
		return fmt.Sprint(list)
	}
	if once() != once() {
		t.Fatal("the same calls answer another thing")
	}
}

// Trees have nothing in common but what their maker gives them.
func TestTwoTrees(t *testing.T) {
	e := epoch.New()
	x, _ := tree.New(50, 10, e)
	y, _ := tree.New(50, 10, e)
	run(t, x, add(0, "a", 1))
	want(t, "Keep", x.Keep(5), api.OK)
	run(t, y, add(0, "b", 2))
	wantAll(t, x, ref("a", 1))
	wantAll(t, y, ref("b", 2))
	if y.Kept() != 0 || x.Kept() != 5 {
		t.Fatalf("Kept %d and %d", x.Kept(), y.Kept())
	}
	f := begin(t, x, get(3, "a"))
	steps(t, f, 1)
	wantTold(t, run(t, y, get(3, "b")), api.TreeTold{Err: api.ErrPinned}) // the epoch is both's
}

// The scheduler of chapter 12 lets operations go on.
func TestInAScheduler(t *testing.T) {
	x, p := newTree(t, 500, 50)
	s, _ := sched.New(20)
	for round := range 6 {
		for n := range 16 {
			if _, e := s.Spawn(begin(t, x, add(n, string([]byte{byte('a' + n), byte('a' + round)}), 1))); e != api.OK {
				t.Fatal(e)
			}
		}
		if _, over := s.Run(5000); !over {
			t.Fatal("they do not end")
		}
		for range 16 {
			s.Finished()
		}
		sweep(t, x, p)
	}
	if got := len(all(x)); got != 96 {
		t.Fatalf("%d keys", got)
	}
	wantSideBySide(t, x, p, 50)
}

// THE BOUND: a step, a page, all entries, of trees of as many nodes as there may be: many leaves, and one leaf with all keys, where no page is free.
func TestGreatTrees(t *testing.T) {
	t.Parallel()
	began := time.Now()
	x, p := newTree(t, api.MaxSlots, api.MaxSlots)
	for i := range 20000 {
		run(t, x, add(0, "k"+strconv.Itoa(i*7919%20000), i+1))
		if i%50 == 0 {
			sweep(t, x, p)
		}
	}
	sweep(t, x, p)
	if got := len(all(x)); got != 20000 || x.Stale() != 0 {
		t.Fatalf("%d keys, Stale %d", got, x.Stale())
	}
	for range 20 {
		all(x)
	}
	low := ""
	for range 30 { // the merge of a leaf goes over all pages
		told := run(t, x, leafOf(0, low))
		low = told.Next
		for _, y := range told.List {
			run(t, x, api.TreeOp{Kind: api.OpRemove, Key: y.Key, Ref: y.Ref})
		}
		run(t, x, shrink(0, low))
	}
	x, p = newTree(t, api.MaxSlots, 1)
	for i := range 1500 {
		run(t, x, add(0, "k"+strconv.Itoa(i), i+1))
		sweep(t, x, p)
	}
	want(t, "Keep", x.Keep(api.MaxSlots-x.Nodes()), api.OK)
	for i := range 300 { // there is no room to pack it
		run(t, x, keptAdd(0, "l"+strconv.Itoa(i), i+1))
	}
	if _, deltas, _ := x.Page(0); deltas < 300 || len(all(x)) != 1800 {
		t.Fatalf("%d deltas, %d keys", deltas, len(all(x)))
	}
	if took := time.Since(began); took > 3*time.Minute {
		t.Errorf("it took %v", took)
	}
}
