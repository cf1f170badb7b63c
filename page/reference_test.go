package page_test

import (
	"math/rand/v2"
	"slices"
	"testing"

	"cresset/api"
	"cresset/page"
)

// The document's words written down a second time: places of entries are gathered in lists, and the first or last of these taken.

// below holds two texts against each other byte by byte, a beginning being less than the whole.
func below(a, b string) bool {
	for at := 0; ; at++ {
		if at == len(b) {
			return false
		}
		if at == len(a) {
			return true
		}
		if int(a[at]) != int(b[at]) {
			return int(a[at]) < int(b[at])
		}
	}
}

func isIn(p api.Page, key string) bool {
	return !below(key, p.Low) && (len(p.High) == 0 || below(key, p.High))
}

// places has those of the entries whose Key is such a one.
func places(p api.Page, is func(key string) bool) []int {
	var list []int
	for at := 0; at < len(p.List); at++ {
		if is(p.List[at].Key) {
			list = append(list, at)
		}
	}
	return list
}

func with(p api.Page, key string) []int {
	return places(p, func(other string) bool { return !below(key, other) && !below(other, key) })
}

func wordsCheck(p api.Page) api.Errno {
	bad := len(p.High) > 0 && !below(p.Low, p.High)
	bad = bad || p.Right <= -1
	for i, e := range p.List {
		for _, behind := range p.List[i+1:] {
			bad = bad || !below(e.Key, behind.Key)
		}
		bad = bad || !isIn(p, e.Key)
		if p.Leaf {
			bad = bad || e.Child != 0
		} else {
			bad = bad || e.Ref.Slot != 0 || e.Ref.Gen != 0 || e.Child <= 0
		}
	}
	if !p.Leaf {
		bad = bad || len(with(p, p.Low)) == 0 || with(p, p.Low)[0] != 0
	}
	if bad {
		return 70
	}
	return 0
}

func wordsFind(p api.Page, key string) (api.Entry, bool) {
	list := with(p, key)
	if !p.Leaf {
		list = places(p, func(other string) bool { return !below(key, other) })
		slices.Reverse(list)
	}
	if len(list) == 0 {
		return api.Entry{}, false
	}
	return p.List[list[0]], true
}

// inserted is the list with e ahead of the place at, built anew.
func inserted(list []api.Entry, at int, e ...api.Entry) []api.Entry {
	var out []api.Entry
	for i := 0; i <= len(list); i++ {
		if i == at {
			out = append(out, e...)
		}
		if i < len(list) {
			out = append(out, list[i])
		}
	}
	return out
}

func without(list []api.Entry, at int) []api.Entry {
	var out []api.Entry
	for i, e := range list {
		if i != at {
			out = append(out, e)
		}
	}
	return out
}

func wordsPut(p api.Page, e api.Entry) (api.Page, api.Errno) {
	if !isIn(p, e.Key) {
		return api.Page{}, 73
	}
	greater := places(p, func(other string) bool { return below(e.Key, other) })
	if same := with(p, e.Key); len(same) > 0 {
		p.List = inserted(without(p.List, same[0]), same[0], e)
	} else {
		p.List = inserted(p.List, append(greater, len(p.List))[0], e)
	}
	return p, 0
}

func wordsRemove(p api.Page, key string) (api.Page, api.Errno) {
	list := with(p, key)
	if len(list) == 0 {
		return api.Page{}, 4
	}
	p.List = without(p.List, list[0])
	return p, 0
}

// wordsParts is the shortest beginning of b that is above a, and whether there is one.
func wordsParts(a, b string) (string, bool) {
	for n := 0; n <= len(b) && below(a, b); n++ {
		if below(a, b[:n]) {
			return b[:n], true
		}
	}
	return "", false
}

func wordsSplit(p api.Page, id int) (api.Page, api.Page, api.Errno) {
	n := len(p.List)
	if id <= 0 {
		return api.Page{}, api.Page{}, 1
	}
	if n <= 1 {
		return api.Page{}, api.Page{}, 71
	}
	l, r := p, p
	l.List, r.List = nil, nil
	for at, e := range p.List {
		if 2*(at+1) <= n {
			l.List = append(l.List, e)
		} else {
			r.List = append(r.List, e)
		}
	}
	mid := r.List[0].Key
	if p.Leaf {
		s, is := wordsParts(l.List[len(l.List)-1].Key, mid)
		if !is {
			return api.Page{}, api.Page{}, 70
		}
		mid = s
	}
	l.High, l.Right, r.Low = mid, id, mid
	return l, r, 0
}

func wordsMerge(p, q api.Page) (api.Page, api.Errno) {
	if p.Leaf != q.Leaf || len(p.High) == 0 || p.High != q.Low {
		return api.Page{}, 72
	}
	p.List = inserted(p.List, len(p.List), q.List...)
	p.High, p.Right = q.High, q.Right
	return p, 0
}

func wordsFrom(p api.Page, key string) []api.Entry {
	list := places(p, func(other string) bool { return !below(other, key) })
	var out []api.Entry
	for at, e := range p.List {
		if len(list) > 0 && at >= list[0] {
			out = append(out, e)
		}
	}
	return out
}

// copied is a page whose list nobody else has, with room behind it.
func copied(p api.Page) api.Page {
	p.List = append(make([]api.Entry, 0, len(p.List)+3), p.List...)
	return p
}

// holdKey holds all that is asked of a page and one key against the words.
func holdKey(t *testing.T, p api.Page, e api.Entry) {
	t.Helper()
	if page.Has(p, e.Key) != isIn(p, e.Key) {
		t.Fatalf("Has(%#v, %#v) = %v", p, e.Key, page.Has(p, e.Key))
	}
	x, is := page.Find(p, e.Key)
	if y, ok := wordsFind(p, e.Key); x != y || is != ok {
		t.Fatalf("Find(%#v, %#v) = %v, %v, want %v, %v", p, e.Key, x, is, y, ok)
	}
	got, f := page.Put(p, e)
	if wanted, g := wordsPut(p, e); f != g || !equal(got, wanted) {
		t.Fatalf("Put(%#v, %#v) = %#v, %d, want %#v, %d", p, e, got, f, wanted, g)
	}
	got, f = page.Remove(p, e.Key)
	if wanted, g := wordsRemove(p, e.Key); f != g || !equal(got, wanted) {
		t.Fatalf("Remove(%#v, %#v) = %#v, %d, want %#v, %d", p, e.Key, got, f, wanted, g)
	}
	if told, wanted := slices.Collect(page.From(p, e.Key)), wordsFrom(p, e.Key); !slices.Equal(told, wanted) {
		t.Fatalf("From(%#v, %#v) tells %#v, want %#v", p, e.Key, told, wanted)
	}
}

// holdWhole holds all that is asked of a page alone against the words.
func holdWhole(t *testing.T, p api.Page) {
	t.Helper()
	before := copied(p)
	if got := page.Check(p); got != wordsCheck(p) {
		t.Fatalf("Check(%#v) = %d", p, got)
	}
	for id := -1; id <= 2; id++ {
		l, r, f := page.Split(p, id)
		x, y, g := wordsSplit(p, id)
		if f != g || !equal(l, x) || !equal(r, y) {
			t.Fatalf("Split(%#v, %d) = %#v, %#v, %d, want %#v, %#v, %d", p, id, l, r, f, x, y, g)
		}
	}
	if page.Full(p) != (len(p.List) >= 9) || page.Small(p) != (len(p.List) <= 1) {
		t.Fatalf("%d entries: Full %v, Small %v", len(p.List), page.Full(p), page.Small(p))
	}
	if c := page.Clone(p); !equal(c, p) || !page.Same(c, p) || !page.Same(p, before) {
		t.Fatalf("Clone(%#v) = %#v", p, c)
	}
	if !equal(p, before) {
		t.Fatalf("%#v was %#v", p, before)
	}
}

// all lists of at most so many entries with these keys, numbered so that each is another one.
func allLists(most int, leaf bool, of ...string) [][]api.Entry {
	list, last := [][]api.Entry{nil}, [][]api.Entry{nil}
	for n := range most {
		var longer [][]api.Entry
		for _, l := range last {
			for _, key := range of {
				e := child(key, n+1)
				if leaf {
					e = ref(key, n+1)
				}
				longer = append(longer, append(slices.Clone(l), e))
			}
		}
		list = append(list, longer...)
		last = longer
	}
	return list
}

// P7.1 to P7.4: all pages with at most four entries of a few keys, in any order, within all ranges of these.
func TestAllSmallPages(t *testing.T) {
	few := []string{"", "\x00", "a", "ab"}
	for _, isLeaf := range []bool{true, false} {
		for _, list := range allLists(4, isLeaf, few...) {
			for _, low := range few {
				for _, high := range few {
					p := api.Page{Leaf: isLeaf, Low: low, High: high, Right: len(list) % 3, List: list}
					holdWhole(t, p)
					for _, key := range append(few, "aa", "\xff") {
						holdKey(t, p, ref(key, 77))
					}
				}
			}
		}
	}
}

// P7.3, P7.4: all pairs of pages with at most one entry.
func TestAllSmallPairs(t *testing.T) {
	few := []string{"", "a", "b"}
	var pages []api.Page
	for _, isLeaf := range []bool{true, false} {
		for _, list := range allLists(1, isLeaf, few...) {
			for _, low := range few {
				for _, high := range few {
					for right := -1; right <= 1; right++ {
						pages = append(pages, api.Page{Leaf: isLeaf, Low: low, High: high, Right: right, List: list})
					}
				}
			}
		}
	}
	for _, p := range pages {
		for _, q := range pages {
			got, f := page.Merge(p, q)
			if wanted, g := wordsMerge(p, q); f != g || !equal(got, wanted) {
				t.Fatalf("Merge(%#v, %#v) = %#v, %d, want %#v, %d", p, q, got, f, wanted, g)
			}
			if page.Same(p, q) != equal(p, q) {
				t.Fatalf("Same(%#v, %#v) = %v", p, q, page.Same(p, q))
			}
		}
	}
}

// wild is a page of any kind, often one that may nearly be.
func wild(r *rand.Rand, text func() string) api.Page {
	p := api.Page{Leaf: r.IntN(2) == 0, Low: text(), High: text(), Right: r.IntN(5) - 1}
	if r.IntN(2) == 0 {
		p.High = ""
	}
	if r.IntN(3) > 0 {
		p.Low = ""
	}
	for n := range r.IntN(20) {
		e := api.Entry{Key: text()}
		if p.Leaf != (r.IntN(60) == 0) {
			e.Ref = api.Handle{Slot: n, Gen: 1}
		} else {
			e.Child = n + r.IntN(40)
		}
		p.List = append(p.List, e)
	}
	if r.IntN(4) > 0 {
		slices.SortStableFunc(p.List, func(a, b api.Entry) int {
			switch {
			case below(a.Key, b.Key):
				return -1
			case below(b.Key, a.Key):
				return 1
			}
			return 0
		})
		if r.IntN(4) > 0 {
			p.List = slices.CompactFunc(p.List, func(a, b api.Entry) bool { return a.Key == b.Key })
		}
	}
	if len(p.List) > 0 && !p.Leaf && r.IntN(4) > 0 {
		p.Low = p.List[0].Key
	}
	return p
}

// P7.1 to P7.4: long lists, in order and not, with keys twice, of leaves and inner pages.
func TestLongPagesByWords(t *testing.T) {
	r := rand.New(rand.NewPCG(7, 7))
	const of = "\x00aab\x7f\x80\xff"
	text := func() string {
		b := make([]byte, r.IntN(4))
		for i := range b {
			b[i] = of[r.IntN(len(of))]
		}
		return string(b)
	}
	good := 0
	for range 20000 {
		p := wild(r, text)
		holdWhole(t, p)
		if wordsCheck(p) == 0 {
			good++
		}
		for range 4 {
			e := ref(text(), r.IntN(100))
			if len(p.List) > 0 && r.IntN(2) == 0 {
				e.Key = p.List[r.IntN(len(p.List))].Key
			}
			holdKey(t, p, e)
		}
		q := wild(r, text)
		if r.IntN(4) > 0 {
			q.Leaf, q.Low = p.Leaf, p.High
		}
		got, f := page.Merge(p, q)
		if wanted, g := wordsMerge(p, q); f != g || !equal(got, wanted) {
			t.Fatalf("Merge(%#v, %#v) = %#v, %d, want %#v, %d", p, q, got, f, wanted, g)
		}
	}
	if good < 2000 || good > 18000 {
		t.Errorf("%d of the pages may be: too few of one kind are tried", good)
	}
}
