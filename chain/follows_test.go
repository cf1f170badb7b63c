package chain_test

import (
	"math/rand/v2"
	"slices"
	"testing"

	"cresset/api"
	"cresset/chain"
	"cresset/delta"
)

// P11.4: the page of a chain that grew is the page ahead, with the delta applied; what is refused there is refused here. What Look says is what the folded page says.
func TestThePageOfAChainThatGrew(t *testing.T) {
	for seed := range uint64(200) {
		r := rand.New(rand.NewPCG(seed, 114))
		a := newArena(t, 40)
		head, e := chain.Begin(a, somePage(r))
		for e != api.OK {
			head, e = chain.Begin(a, somePage(r))
		}
		for range 30 {
			d := someDelta(r)
			h, e := chain.Grow(a, head, d)
			if e != api.OK {
				want(t, "delta.Check", delta.Check(d), e)
				continue
			}
			was, e := chain.Page(a, head)
			want(t, "Page", e, api.OK)
			wanted, we := delta.Apply(was, d)
			if we != api.OK {
				refusesPage(t, a, h, we)
				want(t, "Free", a.Free(h), api.OK)
				continue
			}
			wantPage(t, a, h, wanted)
			wantPage(t, a, head, was)
			wantSame(t, a, h, wanted)
			head = h
		}
	}
}

// wantSame asks whether Look says of all keys what the page alone says.
func wantSame(t *testing.T, a nodes, head api.Handle, p api.Page) {
	t.Helper()
	for _, key := range []string{"", "a", "aa", "ab", "b", "bb", "c", "d", "e"} {
		s, e := chain.Look(a, head, key)
		if ws, we := delta.Look(p, key); s != ws || e != we {
			t.Fatalf("Look(%v, %q) = %v, %d, want %v, %d", head, key, s, e, ws, we)
		}
	}
}

// P11.5: Pack's chain has one node and the same page, and says the same of each key.
func TestPackHasOneNodeAndTheSamePage(t *testing.T) {
	for seed := range uint64(200) {
		r := rand.New(rand.NewPCG(seed, 115))
		a := newArena(t, 40)
		head := begun(t, a, some)
		for range 15 {
			if h, e := chain.Grow(a, head, someDelta(r)); e == api.OK {
				if _, e := chain.Page(a, h); e == api.OK {
					head = h
				}
			}
		}
		p, e := chain.Page(a, head)
		want(t, "Page", e, api.OK)
		k, e := chain.Pack(a, head)
		want(t, "Pack", e, api.OK)
		wantTold(t, a, k, item{k, base(p)})
		wantLong(t, a, k, 0)
		wantRead(t, a, k, p)
		wantPage(t, a, k, p)
		wantSame(t, a, k, p)
		wantPage(t, a, head, p)
	}
}

// P11.5: what another chain does changes nothing of one; of two that have a tail in common growing and packing change neither.
func TestChainsDoNotTouchOneAnother(t *testing.T) {
	a := newArena(t, 60)
	tail := grown(t, a, begun(t, a, some), putC)
	mine, other := grown(t, a, tail, noA), grown(t, a, tail, remove("b"))
	far := grown(t, a, begun(t, a, leaf("x", "", 0)), put(ref("y", 1)))
	before := told(a, mine, -1)
	still := func() {
		t.Helper()
		wantTold(t, a, mine, before...)
		wantRead(t, a, mine, some, noA, putC)
		wantPage(t, a, mine, leaf("", "", 0, ref("b", 2), ref("c", 3)))
		wantLong(t, a, mine, 2)
	}
	r := rand.New(rand.NewPCG(1, 115))
	var packed []api.Handle
	for range 25 {
		if h, e := chain.Grow(a, other, someDelta(r)); e == api.OK {
			other = h
		}
		still()
		if h, e := chain.Pack(a, far); e == api.OK {
			packed = append(packed, h)
		}
		still()
	}
	for _, h := range append(packed, far) {
		want(t, "Free", chain.Free(a, h), api.OK)
		still()
		begun(t, a, leaf("z", "", 0))
		still()
	}
	if chain.Free(a, far) != api.ErrStale {
		t.Error("Free of what was freed")
	}
	still()
}

// P11.3, P11.5: a chain that was packed and freed leaves its slots to others; in the end nothing is left.
func TestSlotsComeBack(t *testing.T) {
	a := newArena(t, 5)
	head := begun(t, a, leaf("", "", 0))
	var keys []api.Entry
	for i := range 60 {
		e := ref(string(rune('a'+i%26))+string(rune('a'+i/26)), i)
		keys = append(keys, e)
		head = grown(t, a, head, put(e))
		if n, _ := chain.Long(a, head); n == 3 {
			k, e := chain.Pack(a, head)
			want(t, "Pack", e, api.OK)
			want(t, "Free", chain.Free(a, head), api.OK)
			head = k
		}
	}
	slices.SortFunc(keys, func(a, b api.Entry) int {
		if a.Key < b.Key {
			return -1
		}
		return 1
	})
	wantPage(t, a, head, leaf("", "", 0, keys...))
	want(t, "Free", chain.Free(a, head), api.OK)
	if a.Live() != 0 || a.Stale() != 0 {
		t.Errorf("Live %d, Stale %d", a.Live(), a.Stale())
	}
}
