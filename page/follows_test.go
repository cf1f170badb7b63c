package page_test

import (
	"math/rand/v2"
	"testing"

	"cresset/api"
	"cresset/page"
)

// grown is a page that may be, and what it has by its keys.
func grown(t *testing.T, r *rand.Rand, isLeaf bool, many int, key func() string) (api.Page, map[string]api.Entry) {
	t.Helper()
	low, high := key(), key()
	if high != "" && !below(low, high) {
		low, high = high, low+"\x00"
	}
	p := api.Page{Leaf: isLeaf, Low: low, High: high, Right: r.IntN(3)}
	if !isLeaf {
		p.List = []api.Entry{child(low, 1)}
	}
	held := map[string]api.Entry{}
	for _, e := range p.List {
		held[e.Key] = e
	}
	for range many {
		e := fitting(isLeaf, key(), 1+r.IntN(50))
		q, f := page.Put(p, e)
		if !isIn(p, e.Key) {
			want(t, "Put", f, api.ErrOut)
			continue
		}
		want(t, "Put", f, api.OK)
		held[e.Key] = e
		p = q
	}
	return p, held
}

// fitting is an entry such as a leaf, or an inner page, may have.
func fitting(isLeaf bool, key string, n int) api.Entry {
	if isLeaf {
		return ref(key, n)
	}
	return child(key, n)
}

// holds looks whether p may be, and has just what is held.
func holds(t *testing.T, p api.Page, held map[string]api.Entry) {
	t.Helper()
	if page.Check(p) != api.OK || len(p.List) != len(held) {
		t.Fatalf("%#v may not be, or has not the %d that were put", p, len(held))
	}
	for key, e := range held {
		if got, is := page.Find(p, key); !is || got != e {
			t.Fatalf("Find(%#v, %#v) = %v, %v, want %v", p, key, got, is, e)
		}
	}
}

// P7.5, P7.6: pages that were grown by Put, then split and merged, then emptied by Remove.
func TestGrownPages(t *testing.T) {
	r := rand.New(rand.NewPCG(75, 76))
	const of = "\x00abyz\x80\xff"
	key := func() string {
		b := make([]byte, r.IntN(5))
		for i := range b {
			b[i] = of[r.IntN(len(of))]
		}
		return string(b)
	}
	for round := range 4000 {
		p, held := grown(t, r, round%2 == 0, r.IntN(40), key)
		holds(t, p, held)
		if l, rest, f := page.Split(p, 5); f == api.OK {
			splitHolds(t, p, l, rest, held)
		} else if f != api.ErrSplit || len(p.List) >= 2 {
			t.Fatalf("Split(%#v) answered %d", p, f)
		}
		emptied(t, r, p, held)
	}
}

// splitHolds looks at both pages of a Split: they may be, each key is in just one, and Merge makes the page again.
func splitHolds(t *testing.T, p, l, r api.Page, held map[string]api.Entry) {
	t.Helper()
	if page.Check(l) != api.OK || page.Check(r) != api.OK {
		t.Fatalf("Split(%#v) made %#v and %#v", p, l, r)
	}
	for key, e := range held {
		side, other := l, r
		if !isIn(l, key) {
			side, other = r, l
		}
		if x, is := page.Find(side, key); !is || x != e || isIn(other, key) {
			t.Fatalf("%#v is not in just one of %#v and %#v", key, l, r)
		}
	}
	m, f := page.Merge(l, r)
	if f != api.OK || !equal(m, p) || page.Check(m) != api.OK {
		t.Fatalf("Merge of what Split made of %#v is %#v, %d", p, m, f)
	}
	// Split and merged at another place it is the page still.
	if l2, r2, f := page.Split(r, 9); f == api.OK {
		left, _ := page.Merge(l, l2)
		m, f = page.Merge(left, r2)
		if f != api.OK || !equal(m, p) {
			t.Fatalf("three parts of %#v make %#v, %d", p, m, f)
		}
	}
}

// emptied removes all entries, an inner page's first one last, in an order that r picks.
func emptied(t *testing.T, r *rand.Rand, p api.Page, held map[string]api.Entry) {
	t.Helper()
	for len(p.List) > 0 {
		at := r.IntN(len(p.List))
		if !p.Leaf && len(p.List) > 1 {
			at = 1 + r.IntN(len(p.List)-1)
		}
		key := p.List[at].Key
		q, f := page.Remove(p, key)
		want(t, "Remove", f, api.OK)
		delete(held, key)
		if p.Leaf || len(held) > 0 {
			holds(t, q, held)
		}
		if e, is := page.Find(q, key); is && e.Key == key {
			t.Fatalf("%#v is found in %#v", key, q)
		}
		_, f = page.Remove(q, key)
		want(t, "Remove again", f, api.ErrNone)
		p = q
	}
}

// P7.5: an inner page's first entry can be removed: what is left may not be.
func TestRemoveOfTheFirstOfAnInnerPage(t *testing.T) {
	p, f := page.Remove(inner("a", "x", 3, children("a", "b")...), "a")
	want(t, "Remove", f, api.OK)
	wantPage(t, "Remove", p, inner("a", "x", 3, child("b", 2)))
	want(t, "Check", page.Check(p), api.ErrPage)
	wantNone(t, p, "a")
	wantPut(t, p, child("a", 1), child("a", 1), child("b", 2))
}

// P7.6: one put behind another is found in its place; the others' entries stay.
func TestPutTwice(t *testing.T) {
	p := leaf("", "", 0, refs("a", "b", "c")...)
	p, _ = page.Put(p, ref("b", 70))
	p, _ = page.Put(p, ref("b", 71))
	wantFind(t, p, "b", ref("b", 71))
	p, _ = page.Remove(p, "b")
	wantNone(t, p, "b")
	wantFind(t, p, "a", ref("a", 1))
	wantFind(t, p, "c", ref("c", 3))
	wantPage(t, "the page", p, leaf("", "", 0, ref("a", 1), ref("c", 3)))
}
