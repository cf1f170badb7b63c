package heap_test

import (
	"maps"
	"math/rand/v2"
	"slices"
	"testing"

	"cresset/api"
)

// P16.5: of all that there is each slot is reserved by somebody, and in whatever order they come, each one gets just what it has reserved.
func TestWhatIsReservedIsThere(t *testing.T) {
	for seed := range uint64(300) {
		r := rand.New(rand.NewPCG(seed, 165))
		b := begin(t, 12, 20)
		left := map[int][2]int{0: {3, 7}, 5: {8, 1}, 15: {0, 8}, own: {1, 4}}
		for s, n := range left {
			b.reserve(s, n[0], n[1])
		}
		b.wantRoom(0, 0)
		b.want("Reserve", b.h.Reserve(1, 1, 0), api.ErrFull)
		b.want("Reserve", b.h.Reserve(1, 0, 1), api.ErrFull)
		made := []api.Handle{b.cell(0, "a")}
		left[0] = [2]int{2, 7}
		sessions := []int{0, 5, 15, own}
		for ts := int64(1); ts < 200; ts++ {
			s := sessions[r.IntN(4)]
			n := left[s]
			if r.IntN(2) == 0 {
				at, e := b.h.Cell(s, "a")
				if (e == api.ErrFull) != (n[0] == 0) || e != api.OK && e != api.ErrFull {
					t.Fatalf("Cell of the session %d, which has %d left, answered %d", s, n[0], e)
				}
				if e == api.OK {
					made = append(made, at)
					n[0]--
				}
			} else {
				e := b.h.Install(s, made[r.IntN(len(made))], has(ts, "x"))
				if (e == api.ErrFull) != (n[1] == 0) || e != api.OK && e != api.ErrFull {
					t.Fatalf("Install of the session %d, which has %d left, answered %d", s, n[1], e)
				}
				if e == api.OK {
					n[1]--
				}
			}
			left[s] = n
			b.wantReserved(s, n[0], n[1])
			b.wantRoom(0, 0)
		}
		b.wantCounts(12, 20, 0)
	}
}

// crowd does what sessions may do, as it comes: a session that has something left is never told that all is full.
type crowd struct {
	bench
	*rand.Rand
	made []api.Handle
	ts   int64
}

func (x *crowd) pick() api.Handle {
	if len(x.made) == 0 {
		return api.Handle{}
	}
	return x.made[x.IntN(len(x.made))]
}

func (x *crowd) act() {
	x.t.Helper()
	s := x.IntN(17)
	cells, versions, _ := x.h.Reserved(s)
	switch x.IntN(10) {
	case 0, 1:
		c, v := x.h.Room()
		x.h.Reserve(s, x.IntN(c+1), x.IntN(v+1)) // all of it, often
	case 2:
		x.h.Release(s)
	case 3, 4:
		at, e := x.h.Cell(s, "k")
		if cells > 0 && e != api.OK {
			x.t.Fatalf("Cell answered %d, and %d were left", e, cells)
		}
		if e == api.OK {
			x.made = append(x.made, at)
		}
	case 5, 6:
		x.ts++
		e := x.h.Install(s, x.pick(), api.Version{TS: x.ts, Del: x.IntN(2) == 0})
		if versions > 0 && e != api.OK && e != api.ErrStale && e != api.ErrClosed {
			x.t.Fatalf("Install answered %d, and %d were left", e, versions)
		}
	case 7:
		x.h.Drop(s, x.pick())
	case 8:
		x.h.Prune(x.pick(), x.ts-x.Int64N(3))
		x.h.Retire(x.pick())
	case 9:
		l, _ := x.e.Advance()
		for _, r := range l {
			x.h.Free(r)
		}
		x.made = slices.DeleteFunc(x.made, func(at api.Handle) bool { _, e := x.h.Key(at); return e != api.OK })
	}
}

// P16.5: also where others reserve, release, drop, retire and free between.
func TestWhatIsReservedIsThereWhateverOthersDo(t *testing.T) {
	for seed := range uint64(200) {
		x := &crowd{bench: begin(t, 5, 9), Rand: rand.New(rand.NewPCG(seed, 1605))}
		for range 500 {
			x.act()
			if c, v := x.h.Room(); c < 0 || v < 0 {
				t.Fatalf("Room is %d, %d", c, v)
			}
		}
	}
}

// told is what Read answers at a timestamp, nothing and a version that is Del being the same.
func (b bench) told(at api.Handle, ts int64) api.Version {
	b.t.Helper()
	v, _, e := b.h.Read(at, ts)
	b.want("Read", e, api.OK)
	if v.Del {
		return api.Version{}
	}
	return v
}

func (b bench) tells(at api.Handle) []api.Version {
	b.t.Helper()
	var l []api.Version
	for ts := int64(-1); ts < 9; ts++ {
		l = append(l, b.told(at, ts))
	}
	return l
}

// histories calls what with each list of versions with timestamps from 1 to most, the oldest one first.
func histories(most int64, what func([]api.Version)) {
	var longer func(l []api.Version, ts int64)
	longer = func(l []api.Version, ts int64) {
		if ts > most {
			what(l)
			return
		}
		l = l[:len(l):len(l)]
		longer(l, ts+1)
		longer(append(l, has(ts, "x")), ts+1)
		longer(append(l, gone(ts)), ts+1)
	}
	longer(nil, 1)
}

// P16.6: of each history, pruned at each mark and then at each one behind that: at the mark and above the same is read, also when what was retired has been freed and its slots have other versions.
func TestNothingThatIsNeededGoes(t *testing.T) {
	histories(5, func(l []api.Version) {
		for mark := int64(-1); mark < 8; mark++ {
			for second := mark; second < 8; second += 2 {
				b := begin(t, 2, 10)
				a := b.filled("a", l...)
				wanted := b.tells(a)
				for _, at := range []int64{mark, second} {
					n, closed, e := b.h.Prune(a, at)
					left, is, _ := b.h.List(a)
					if e != api.OK || closed != is || closed && n > 0 || b.e.Waiting() != len(l)-len(left) {
						t.Fatalf("Prune of %v at %d = %d, %v, %d; %v is left, %d wait", l, at, n, closed, e, left, b.e.Waiting())
					}
					if got := b.tells(a); !slices.Equal(got[at+1:], wanted[at+1:]) {
						t.Fatalf("%v, pruned at %d, tells %v from it on, was %v", l, at, got[at+1:], wanted[at+1:])
					}
				}
				b.settle()
				b.filled("b", has(1, "other"), has(2, "other"), has(3, "other"), has(4, "other"), has(5, "other"))
				if got := b.tells(a); !slices.Equal(got[second+1:], wanted[second+1:]) {
					t.Fatalf("%v, pruned at %d, tells %v from it on when all is freed, was %v", l, second, got, wanted)
				}
			}
		}
	})
}

// P16.6: a cell that is closed tells what it told, and opened again it does so still.
func TestNothingGoesByClosing(t *testing.T) {
	histories(4, func(l []api.Version) {
		for mark := int64(0); mark < 6; mark++ {
			b := begin(t, 1, 5)
			a := b.filled("a", l...)
			wanted := b.tells(a)
			_, closed, _ := b.h.Prune(a, mark)
			if !closed {
				continue
			}
			if got := b.tells(a); !slices.Equal(got, wanted) {
				t.Fatalf("%v, closed at %d, tells %v, was %v", l, mark, got, wanted)
			}
			b.want("Reopen", b.h.Reopen(a), api.OK)
			b.reserve(0, 0, 1)
			b.install(0, a, has(7, "new"))
			if got := b.tells(a); !slices.Equal(got[:8], wanted[:8]) || got[8] != has(7, "new") {
				t.Fatalf("%v, opened again, tells %v, was %v", l, got, wanted)
			}
		}
	})
}

// market is sessions that keep to the epoch: they find cells by an index while they are pinned, and look at no others.
type market struct {
	bench
	*rand.Rand
	index map[string]api.Handle // the cells that are not retired, by their keys
	held  map[int][]api.Handle  // by the sessions that are pinned: what they have found since
	ts    int64
}

var marketKeys = []string{"a", "b", "c", "d"}

func (x *market) key() string { return marketKeys[x.IntN(len(marketKeys))] }

// found is a cell that a session has found, perhaps long ago.
func (x *market) found(s int) (api.Handle, bool) {
	if at, ok := x.index[x.key()]; ok && x.IntN(3) == 0 {
		x.held[s] = append(x.held[s], at)
	}
	if len(x.held[s]) == 0 {
		return api.Handle{}, false
	}
	return x.held[s][x.IntN(len(x.held[s]))], true
}

// write writes to a key as a commit does.
func (x *market) write(s int, key string) {
	x.t.Helper()
	if x.h.Reserve(s, 1, 1) != api.OK {
		return
	}
	x.ts++
	v := api.Version{TS: x.ts, Del: x.IntN(2) == 0}
	at := x.cell(s, key)
	if there, ok := x.index[key]; ok {
		x.want("Drop", x.h.Drop(s, at), api.OK)
		at = there
	}
	if e := x.h.Install(s, at, v); e == api.OK {
		x.index[key] = at
	} else if e != api.ErrClosed {
		x.t.Fatalf("Install answered %d", e)
	}
	x.release(s)
}

// prune lets go of what nobody needs of a key, as the store does.
func (x *market) prune(key string) {
	x.t.Helper()
	at, ok := x.index[key]
	if !ok {
		return
	}
	_, closed, e := x.h.Prune(at, x.ts-x.Int64N(2))
	x.want("Prune", e, api.OK)
	switch {
	case closed && x.IntN(3) == 0:
		x.want("Reopen", x.h.Reopen(at), api.OK)
	case closed && x.IntN(3) > 0:
		delete(x.index, key)
		x.want("Retire", x.h.Retire(at), api.OK)
	}
}

// look asks all that may be asked of a cell that a session has found.
func (x *market) look(s int) {
	x.t.Helper()
	at, ok := x.found(s)
	if !ok {
		return
	}
	key, e := x.h.Key(at)
	x.want("Key", e, api.OK)
	_, closed, e := x.h.List(at)
	x.want("List", e, api.OK)
	if there := x.index[key]; there != at && !closed {
		x.t.Fatalf("the cell %v of %q is open, and %v is there", at, key, there)
	}
	_, _, e = x.h.Read(at, x.ts-x.Int64N(5))
	x.want("Read", e, api.OK)
	if closed && x.IntN(2) == 0 {
		_, is, e := x.h.Prune(at, x.ts)
		if !is || e != api.OK {
			x.t.Fatalf("Prune of a closed cell = %v, %d", is, e)
		}
	}
}

func (x *market) advance() {
	x.t.Helper()
	l, e := x.e.Advance()
	if e != api.OK && e != api.ErrHeld {
		x.t.Fatalf("Advance answered %d", e)
	}
	for _, r := range l {
		x.want("Free", x.h.Free(r), api.OK)
	}
}

func (x *market) act() {
	x.t.Helper()
	s := x.IntN(5)
	if x.IntN(8) == 0 {
		x.advance()
		return
	}
	if _, pinned := x.held[s]; !pinned {
		x.want("Pin", x.e.Pin(s), api.OK)
		x.held[s] = nil
		return
	}
	switch n := x.IntN(10); {
	case n < 2:
		x.want("Unpin", x.e.Unpin(s), api.OK)
		delete(x.held, s)
	case n < 4:
		x.write(s, x.key())
	case n < 6:
		x.prune(x.key())
	default:
		x.look(s)
	}
}

// P16.7: sessions that keep to the epoch meet no stale handle; at rest all that nobody needs is given back.
func TestNothingStale(t *testing.T) {
	freed := 0
	for seed := range uint64(200) {
		x := &market{begin(t, 9, 24), rand.New(rand.NewPCG(seed, 167)), map[string]api.Handle{}, map[int][]api.Handle{}, 0}
		for range 600 {
			was := x.h.Cells()
			x.act()
			if x.h.Cells() < was {
				freed++
			}
			if x.h.Stale() != 0 {
				t.Fatalf("%d stale handles", x.h.Stale())
			}
		}
		for _, s := range slices.Sorted(maps.Keys(x.held)) {
			x.want("Unpin", x.e.Unpin(s), api.OK)
		}
		x.rest()
	}
	if freed < 1000 {
		t.Errorf("cells were freed %d times alone", freed)
	}
}

// rest prunes all keys and frees all that waits: of each key that is there one cell and one version are left.
func (x *market) rest() {
	x.t.Helper()
	for _, key := range marketKeys {
		at, ok := x.index[key]
		if !ok {
			continue
		}
		if _, closed, _ := x.h.Prune(at, x.ts); closed {
			delete(x.index, key)
			x.want("Retire", x.h.Retire(at), api.OK)
		}
	}
	x.settle()
	x.wantCounts(len(x.index), len(x.index), 0)
	x.wantRoom(9-len(x.index), 24-len(x.index))
}
