package tree_test

import (
	"fmt"
	"maps"
	"math/rand/v2"
	"slices"
	"strings"
	"testing"

	"cresset/api"
	"cresset/epoch"
	"cresset/tree"
)

// past is an operation that has finished: between which steps of all, and what it told.
type past struct {
	ask      api.TreeOp
	told     api.TreeTold
	from, to int
}

// world is keys and their handles.
type world map[string]api.Handle

func worldOf(list []api.Entry) world {
	w := world{}
	for _, x := range list {
		w[x.Key] = x.Ref
	}
	return w
}

func (w world) entry(key string) (api.Entry, bool) {
	h, is := w[key]
	if !is {
		return api.Entry{}, false
	}
	return api.Entry{Key: key, Ref: h}, true
}

// list is the entries from a key on, below another one (the empty text: without end).
func (w world) list(low, high string) []api.Entry {
	var list []api.Entry
	for _, key := range slices.Sorted(maps.Keys(w)) {
		if key >= low && (high == "" || key < high) {
			list = append(list, api.Entry{Key: key, Ref: w[key]})
		}
	}
	return list
}

// behind is the world behind an operation that is done at once, and whether it told what it would have told there.
func (w world) behind(x past) (world, bool) {
	if x.told.Err != api.OK {
		return w, equalTold(x.told, api.TreeTold{Err: x.told.Err})
	}
	was, is := w.entry(x.ask.Key)
	asked := api.Entry{Key: x.ask.Key, Ref: x.ask.Ref}
	wanted := api.TreeTold{Entry: was}
	next := w
	switch x.ask.Kind {
	case api.OpGet:
		wanted.Found = is
	case api.OpAdd:
		if !is {
			next = maps.Clone(w)
			next[x.ask.Key] = x.ask.Ref
			wanted = api.TreeTold{Entry: asked, Found: true}
		}
	case api.OpRemove:
		if is && was == asked {
			next = maps.Clone(w)
			delete(next, x.ask.Key)
			wanted.Found = true
		}
	case api.OpLeaf:
		wanted = api.TreeTold{List: w.list(x.ask.Key, x.told.Next), Next: x.told.Next, More: x.told.Next != ""}
	case api.OpShrink:
		wanted = api.TreeTold{Found: x.told.Found}
	}
	return next, equalTold(x.told, wanted)
}

// linear says whether there is an order of the operations, one that ended ahead of where another began standing ahead of it, by which each told what the world then had, and which leads to the world in the end.
func linear(w, end world, list []past) bool {
	if len(list) == 0 {
		return maps.Equal(w, end)
	}
	first := slices.MinFunc(list, func(a, b past) int { return a.to - b.to }).to
	for at, x := range list {
		if x.from > first { // another one had ended ahead of where it began
			continue
		}
		next, is := w.behind(x)
		if is && linear(next, end, slices.Delete(slices.Clone(list), at, at+1)) {
			return true
		}
	}
	return false
}

// The test's own eyes: orders that cannot be are seen.
func TestLinearSees(t *testing.T) {
	a := past{add(0, "a", 1), api.TreeTold{Entry: ref("a", 1), Found: true}, 1, 5}
	none := past{get(0, "a"), api.TreeTold{}, 3, 7}
	found := past{get(0, "a"), api.TreeTold{Entry: ref("a", 1), Found: true}, 3, 4}
	late := past{get(0, "a"), api.TreeTold{}, 6, 9}
	twice := past{add(0, "a", 2), api.TreeTold{Entry: ref("a", 2), Found: true}, 2, 4}
	have := world{"a": a.ask.Ref}
	for _, x := range []struct {
		list []past
		end  world
		is   bool
	}{
		{[]past{a}, have, true}, {[]past{a}, world{}, false}, {[]past{a, none}, have, true}, {[]past{a, found}, have, true},
		{[]past{a, late}, have, false}, {[]past{a, twice}, have, false}, {[]past{found}, world{}, false}, {[]past{a, found, none}, have, true},
		{[]past{a, past{leafOf(0, ""), api.TreeTold{}, 6, 8}}, have, false}, {[]past{a, past{leafOf(0, ""), api.TreeTold{List: []api.Entry{ref("a", 1)}}, 2, 8}}, have, true},
	} {
		if got := linear(world{}, x.end, x.list); got != x.is {
			t.Errorf("%v leading to %v: %v", x.list, x.end, got)
		}
	}
}

// P13.6: operations side by side, the steps picked at random, from trees that are about to be packed, split or merged, with much room, little and none.
func TestLinear(t *testing.T) {
	t.Parallel()
	for seed := range uint64(4000) {
		r := rand.New(rand.NewPCG(seed, 6))
		nodes, pages := 200, 20
		if seed%4 == 1 {
			nodes = 12 + r.IntN(30)
		}
		if seed%4 == 2 {
			pages = 1 + r.IntN(5)
		}
		x, e := newTree(t, nodes, pages)
		keys := letters(6 + r.IntN(12))
		for at, key := range keys {
			run(t, x, add(0, key, at+1))
			if list, err := e.Advance(); err == api.OK {
				for _, y := range list {
					x.Free(y)
				}
			}
		}
		before := worldOf(all(x))
		list := race(t, r, x, e, append(keys[len(keys)-3:], keys[0], "x", "y"), 2+r.IntN(6))
		if !linear(before, worldOf(all(x)), list) {
			t.Fatalf("seed %d: there is no order of %v from %v to %v", seed, list, before, all(x))
		}
		if x.Stale() != 0 {
			t.Fatalf("Stale %d", x.Stale())
		}
	}
}

// race lets so many operations go on side by side, some of them one behind the other.
func race(t *testing.T, r *rand.Rand, x *tree.Tree, e *epoch.Epoch, keys []string, many int) []past {
	t.Helper()
	type runner struct {
		f *tree.Op
		past
	}
	var alive []*runner
	var list []past
	step := 0
	for left := many; left > 0 || len(alive) > 0; step++ {
		if left > 0 && (len(alive) == 0 || r.IntN(4) == 0) {
			left--
			o := someOp(r, left, keys)
			alive = append(alive, &runner{begin(t, x, o), past{ask: o, from: -1}})
		}
		at := r.IntN(len(alive))
		w := alive[at]
		if w.from < 0 {
			w.from = step
		}
		if w.f.Step() {
			w.told, _ = w.f.Told()
			w.to = step
			list = append(list, w.past)
			alive = slices.Delete(alive, at, at+1)
		}
		if r.IntN(20) == 0 {
			free, _ := e.Advance()
			for _, y := range free {
				want(t, "Free", x.Free(y), api.OK)
			}
		}
		if step > 5000 {
			t.Fatal("they do not end")
		}
	}
	return list
}

// someOp is an operation of a session; of a removal the handle is often the one with which fill added the key.
func someOp(r *rand.Rand, s int, keys []string) api.TreeOp {
	key := keys[r.IntN(len(keys))]
	slot := int(key[0]-'a') + 1
	switch r.IntN(9) {
	case 0, 1, 2:
		return add(s, key, slot+100*r.IntN(2))
	case 3, 4, 5:
		return remove(s, key, slot+100*(r.IntN(4)/3))
	case 6:
		return get(s, key)
	case 7:
		return leafOf(s, []string{"", key}[r.IntN(2)])
	}
	return shrink(s, key)
}

// wantSideBySide holds P13.8 of a tree at rest: pages that are each other's Right lie side by side, from the empty key on, without end; each live page is one of them; each page has just the nodes of its chain; each key is found from the root.
func wantSideBySide(t *testing.T, x *tree.Tree, e *epoch.Epoch, most int) {
	t.Helper()
	pages, nodes := map[int]api.Page{}, 0
	firsts := map[int]bool{}
	for n := range most {
		p, deltas, err := x.Page(n)
		if err == api.ErrNone {
			continue
		}
		want(t, "Page", err, api.OK)
		pages[n] = p
		nodes += deltas + 1
		firsts[n] = true
	}
	for _, p := range pages {
		delete(firsts, p.Right)
	}
	firsts[0] = true
	seen := 0
	for n := range firsts {
		low := ""
		for {
			p, is := pages[n]
			if seen++; !is || p.Low != low || seen > len(pages) {
				t.Fatalf("the page %d (%v) does not lie behind %q; all: %v", n, p, low, pages)
			}
			if n != 0 && p.Leaf != pages[max(p.Right, 0)].Leaf && p.Right != 0 {
				t.Fatalf("a leaf and an inner page lie side by side: %v", pages)
			}
			if low, n = p.High, p.Right; low == "" {
				break
			}
		}
		if n != 0 {
			t.Fatalf("the last page has the Right %d", n)
		}
	}
	if seen != len(pages) || len(pages) != x.Pages() {
		t.Fatalf("%d of %d pages lie side by side", seen, len(pages))
	}
	waits := 0
	for _, y := range limbo(e) {
		if y.Kind == api.ReNode {
			waits++
		}
	}
	if x.Nodes() != nodes+waits {
		t.Fatalf("there are %d nodes, the pages have %d, %d wait", x.Nodes(), nodes, waits)
	}
	for _, y := range all(x) {
		if told := run(t, x, get(0, y.Key)); !told.Found || told.Entry != y {
			t.Fatalf("%v was not found: %v", y, told)
		}
	}
}

// P13.7, P13.8: long runs of many sessions, all keys in all; each time that no operation is under way the pages lie side by side, and the tree has what was put to it. What waits is freed as soon as the epoch says so.
func TestAtRest(t *testing.T) {
	t.Parallel()
	for seed := range uint64(60) {
		r := rand.New(rand.NewPCG(seed, 8))
		nodes, pages := 3000, 200
		if seed%4 == 1 {
			nodes = 40 + r.IntN(100)
		}
		if seed%4 == 2 {
			pages = 3 + r.IntN(12)
		}
		x, e := newTree(t, nodes, pages)
		has := world{}
		growing := seed % 3
		for range 12 {
			var fibers []*tree.Op
			for s := range api.Sessions + 1 {
				fibers = append(fibers, begin(t, x, ownOp(r, s, has, growing)))
			}
			for left := len(fibers); left > 0; {
				f := fibers[r.IntN(len(fibers))]
				if _, over := f.Told(); over {
					continue
				}
				if f.Step() {
					left--
					note(has, f)
				}
				if r.IntN(15) == 0 {
					free, _ := e.Advance()
					for _, y := range free {
						want(t, "Free", x.Free(y), api.OK)
					}
				}
			}
			wantAll(t, x, has.list("", "")...)
			wantSideBySide(t, x, e, pages)
			if x.Stale() != 0 {
				t.Fatalf("Stale %d", x.Stale())
			}
			if r.IntN(4) == 0 {
				growing = uint64(r.IntN(3))
			}
		}
		sweep(t, x, e)
		wantSideBySide(t, x, e, pages)
	}
}

// ownOp is an operation on a key that is the session's own, so that what it comes to is known.
func ownOp(r *rand.Rand, s int, has world, growing uint64) api.TreeOp {
	key := fmt.Sprintf("%c%d", 'a'+r.IntN(12), s)
	switch n := r.IntN(10); {
	case n == 0:
		return leafOf(s, key)
	case n <= 2:
		return shrink(s, key)
	case growing == 0 || growing == 1 && n < 6:
		return add(s, key, 1+r.IntN(9))
	}
	return api.TreeOp{Kind: api.OpRemove, Session: s, Key: key, Ref: has[key]}
}

// note writes down what an operation has done to the session's own key.
func note(has world, f *tree.Op) {
	told, _ := f.Told()
	if !told.Found || told.Entry == (api.Entry{}) {
		return
	}
	if has[told.Entry.Key] == told.Entry.Ref {
		delete(has, told.Entry.Key)
	} else {
		has[told.Entry.Key] = told.Entry.Ref
	}
}

// P13.7, P13.8: a tree that is emptied by removing and merging comes down to the leaves that are the first of their page above, and fills again.
func TestEmptied(t *testing.T) {
	t.Parallel()
	x, e := newTree(t, 2000, 200)
	var keys []string
	for i := range 300 {
		keys = append(keys, fmt.Sprintf("k%03d", i*7%300))
	}
	for range 3 {
		for at, key := range keys {
			run(t, x, add(0, key, at+1))
		}
		sweep(t, x, e)
		great := x.Pages()
		for at, key := range keys {
			if told := run(t, x, remove(0, key, at+1)); !told.Found {
				t.Fatalf("%q: %v", key, told)
			}
		}
		for range 12 {
			for _, key := range keys {
				run(t, x, shrink(0, key))
				sweep(t, x, e)
			}
		}
		wantAll(t, x)
		wantSideBySide(t, x, e, 200)
		if x.Pages() >= great/2 || x.Stale() != 0 {
			t.Fatalf("%d of %d pages are left, Stale %d", x.Pages(), great, x.Stale())
		}
	}
}

// within lets a fiber go on alone: it ends within 1,000 steps.
func within(t *testing.T, f *tree.Op) {
	t.Helper()
	from := f.Steps()
	for !f.Step() {
		if f.Steps()-from >= 1000 {
			t.Fatal("it goes on for more than 1,000 steps")
		}
	}
}

// wantScan holds that OpLeaf, from Next to Next, comes to the end within as many of them as there are pages, and tells all.
func wantScan(t *testing.T, x *tree.Tree, s int) {
	t.Helper()
	wanted, pages := all(x), x.Pages()
	var list []api.Entry
	key := ""
	for range pages {
		f := begin(t, x, leafOf(s, key))
		within(t, f)
		told, _ := f.Told()
		want(t, "OpLeaf", told.Err, api.OK)
		list = append(list, told.List...)
		if key = told.Next; !told.More {
			break
		}
	}
	if key != "" || !slices.Equal(list, wanted) {
		t.Fatalf("the leaves have %v up to %q, want %v", list, key, wanted)
	}
}

// P13.9: 400 operations, of which many are under way wherever they stand: whichever goes on alone ends, and scans come to the end.
func TestItEnds(t *testing.T) {
	t.Parallel()
	for seed := range uint64(40) {
		r := rand.New(rand.NewPCG(seed, 9))
		x, e := newTree(t, 4000, 400)
		var alive []*tree.Op
		for n := range 398 {
			s := n % api.Sessions
			if len(alive) == api.Sessions || seed%2 == 0 && len(alive) > 3 && r.IntN(3) > 0 {
				at := r.IntN(len(alive))
				within(t, alive[at])
				alive = slices.Delete(alive, at, at+1)
			}
			if _, is := e.Pinned(s); is {
				continue
			}
			key := fmt.Sprintf("k%03d", []int{n, 400 - n, r.IntN(400)}[seed%3])
			f := begin(t, x, add(s, key, n+1))
			alive = append(alive, f)
			steps(t, f, 1)
			for range r.IntN(14) {
				if f.Step() {
					alive = alive[:len(alive)-1]
					break
				}
			}
		}
		within(t, begin(t, x, get(api.Sessions, "k399")))
		wantScan(t, x, api.Sessions)
		for _, f := range alive {
			within(t, f)
		}
		wantSideBySide(t, x, e, 400)
		wantScan(t, x, 0)
	}
}

// P13.9: no operation comes to hang the new pages: each is left where it would begin to, its session unpinned by who has the epoch, so that the root knows two leaves alone. The one that finds all of that ends, and hangs them.
func TestItEndsWhereNothingIsHung(t *testing.T) {
	t.Parallel()
	for _, falling := range []bool{false, true} {
		p := newPair(t, 2000, 400)
		p.quiet = true
		for n := range 395 {
			key := fmt.Sprintf("k%03d", n)
			if falling {
				key = fmt.Sprintf("k%03d", 400-n)
			}
			w := p.begin(add(0, key, n+1))
			for w.o.at != "Post" && !p.step(w) {
			}
			p.unpin(0)
		}
		top, _, _ := p.x.Page(0)
		if len(top.List) != 2 || p.x.Pages() < 70 || len(all(p.x)) != 395 {
			t.Fatalf("the root is %v, of %d pages", top, p.x.Pages())
		}
		f := begin(t, p.x, get(1, "k395")) // it goes over nearly all leaves
		within(t, f)
		if top, _, _ := p.x.Page(0); top.Leaf || f.Steps() < 300 {
			t.Fatalf("the root is %v behind %d steps", top, f.Steps())
		}
		for _, key := range []string{"k394", "k000", "k200", "zz"} {
			within(t, begin(t, p.x, get(1, key)))
		}
		wantScan(t, p.x, 1)
		if p.x.Stale() != 0 {
			t.Fatalf("Stale %d", p.x.Stale())
		}
	}
}

// P13.8: long keys with beginnings in common part, too.
func TestLongKeys(t *testing.T) {
	x, e := newTree(t, 2000, 200)
	same := strings.Repeat("\xff", api.MaxKey-2)
	for i := range 200 {
		key := same + string([]byte{byte(i * 37), byte(i)})
		run(t, x, add(0, key, i+1))
		run(t, x, add(0, key[i%api.MaxKey:], i+1))
		sweep(t, x, e)
	}
	wantSideBySide(t, x, e, 200)
	list := all(x)
	if !slices.IsSortedFunc(list, func(a, b api.Entry) int { return strings.Compare(a.Key, b.Key) }) {
		t.Fatalf("the keys do not rise: %v", list)
	}
	wantScan(t, x, 2)
}
