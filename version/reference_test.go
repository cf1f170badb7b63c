package version_test

import (
	"math/rand/v2"
	"slices"
	"testing"

	"cresset/api"
	"cresset/version"
)

// The document's words written down a second time, without maps and without sorting: what a list says is asked place by place.

func wordsCheck(l []api.Version) api.Errno {
	if len(l) > 1024 {
		return 3
	}
	for i, v := range l {
		switch {
		case v.TS < 1, v.TS > 1<<40:
			return 151
		case i > 0 && v.TS >= l[i-1].TS:
			return 151
		case len(v.Value) > 256:
			return 151
		case v.Del && len(v.Value) > 0:
			return 151
		}
	}
	return 0
}

func wordsAt(l []api.Version, ts int64) (api.Version, bool) {
	if len(l) == 0 {
		return api.Version{}, false
	}
	if l[0].TS > ts {
		return wordsAt(l[1:], ts)
	}
	return l[0], true
}

func wordsPut(l []api.Version, v api.Version) ([]api.Version, api.Errno) {
	if wordsCheck([]api.Version{v}) != 0 {
		return nil, 151
	}
	if len(l) > 0 && !(v.TS > l[0].TS) {
		return nil, 150
	}
	if len(l) > 1023 {
		return nil, 3
	}
	return append([]api.Version{v}, l...), 0
}

func wordsPrune(l []api.Version, mark int64) (kept, rest []api.Version) {
	below := 0 // how many not above the mark were met
	for _, v := range l {
		above := v.TS > mark
		if !above {
			below++
		}
		if above || below == 1 && !v.Del {
			kept = append(kept, v)
		} else {
			rest = append(rest, v)
		}
	}
	return kept, rest
}

// wordsWrite does a write to a map: a list of pairs, in which the key's place is looked for.
func wordsWrite(m []api.Pair, w api.Write) []api.Pair {
	var list []api.Pair
	done := w.Del
	for _, p := range m {
		if p.Key >= w.Key && !done {
			list, done = append(list, api.Pair{Key: w.Key, Value: w.Value}), true
		}
		if p.Key != w.Key {
			list = append(list, p)
		}
	}
	if !done {
		list = append(list, api.Pair{Key: w.Key, Value: w.Value})
	}
	return list
}

func wordsMap(l []api.Pair) []api.Pair {
	var m []api.Pair
	for _, p := range l {
		m = wordsWrite(m, api.Write{Key: p.Key, Value: p.Value})
	}
	return m
}

func wordsOverlay(m []api.Pair, l []api.Write) []api.Pair {
	m = wordsMap(m)
	for _, w := range l {
		m = wordsWrite(m, w)
	}
	return m
}

// wordsFold takes the commits one by one: each time the first one of those with the least timestamp.
func wordsFold(l []api.Commit, ts int64) []api.Pair {
	left := slices.Clone(l)
	var m []api.Pair
	for {
		least := -1
		for i, c := range left {
			if c.TS <= ts && (least < 0 || c.TS < left[least].TS) {
				least = i
			}
		}
		if least < 0 {
			return m
		}
		for _, w := range left[least].Writes {
			m = wordsWrite(m, w)
		}
		left = slices.Delete(left, least, least+1)
	}
}

func wordsSlice(m []api.Pair, r api.Range) []api.Pair {
	var list []api.Pair
	for _, p := range m {
		if p.Key >= r.Low && (r.High == "" || p.Key < r.High) {
			list = append(list, p)
		}
	}
	return list
}

// checkVersions holds all that is asked of a list of versions, at a timestamp, against the words.
func checkVersions(t *testing.T, l []api.Version, ts int64, v api.Version) {
	t.Helper()
	if e := version.Check(l); e != wordsCheck(l) {
		t.Fatalf("Check(%v) = %d", l, e)
	}
	seen, there := wordsAt(l, ts)
	if got, ok := version.At(l, ts); got != seen || ok != there {
		t.Fatalf("At(%v, %d) = %v, %v", l, ts, got, ok)
	}
	if seen.Del {
		seen, there = api.Version{}, false
	}
	if got, ok := version.Value(l, ts); got != seen.Value || ok != there {
		t.Fatalf("Value(%v, %d) = %q, %v", l, ts, got, ok)
	}
	put, wanted := wordsPut(l, v)
	if got, e := version.Put(l, v); e != wanted || !slices.Equal(got, put) {
		t.Fatalf("Put(%v, %v) = %v, %d", l, v, got, e)
	}
	kept, rest := wordsPrune(l, ts)
	if a, b := version.Prune(l, ts); !slices.Equal(a, kept) || !slices.Equal(b, rest) {
		t.Fatalf("Prune(%v, %d) = %v, %v", l, ts, a, b)
	}
}

// shortLists calls what with each list of at most so many of some things.
func shortLists[T any](most int, of []T, what func([]T)) {
	var longer func(l []T)
	longer = func(l []T) {
		what(l)
		if len(l) == most {
			return
		}
		for _, x := range of {
			longer(append(l[:len(l):len(l)], x))
		}
	}
	longer(nil)
}

// P15.1, P15.2: all lists of at most four versions, in order or not, right or wrong, at each timestamp.
func TestAllShortListsOfVersions(t *testing.T) {
	var of []api.Version
	for ts := range int64(4) {
		of = append(of, has(ts, "a"), gone(ts))
	}
	of = append(of, api.Version{TS: 2, Value: "a", Del: true}, has(2, ""))
	shortLists(4, of, func(l []api.Version) {
		for ts := int64(-1); ts < 5; ts++ {
			checkVersions(t, l, ts, of[(int(ts)+1+len(l))%len(of)])
		}
	})
	shortLists(2, of, func(l []api.Version) {
		for _, v := range of {
			checkVersions(t, l, 2, v)
			for _, other := range of {
				if version.Same(append(l[:len(l):len(l)], v), append(l[:len(l):len(l)], other)) != (v == other) {
					t.Fatalf("%v and %v behind %v", v, other, l)
				}
			}
		}
	})
}

// P15.1, P15.2: long lists, nearly in order.
func TestLongListsOfVersions(t *testing.T) {
	r := rand.New(rand.NewPCG(15, 1))
	for range 2000 {
		ts := int64(1<<40) - r.Int64N(3)*r.Int64N(1<<39)
		var l []api.Version
		for range r.IntN(1100) * r.IntN(2) * r.IntN(2) {
			l = append(l, has(ts, "v"))
			if r.IntN(3) == 0 {
				l[len(l)-1] = gone(ts)
			}
			ts -= 1 + r.Int64N(5)
			if r.IntN(2000) == 0 {
				ts += 6
			}
		}
		at, top := ts+r.Int64N(3000), int64(1)
		if len(l) > 0 {
			top = l[0].TS + r.Int64N(3)
		}
		checkVersions(t, l, at, has(top, "w"))
	}
}

// checkMaps holds all that is asked of pairs, writes and a range against the words.
func checkMaps(t *testing.T, m []api.Pair, l []api.Write, r api.Range) {
	t.Helper()
	if got := told(version.Map(m...)); !slices.Equal(got, wordsMap(m)) {
		t.Fatalf("Map(%q) = %q", m, got)
	}
	if got := version.Overlay(m, l...); !slices.Equal(got, wordsOverlay(m, l)) {
		t.Fatalf("Overlay(%q, %v) = %q", m, l, got)
	}
	if got := version.Slice(m, r); !slices.Equal(got, wordsSlice(m, r)) {
		t.Fatalf("Slice(%q, %q) = %q", m, r, got)
	}
}

// P15.3: all lists of at most three pairs and of at most three writes.
func TestAllShortMaps(t *testing.T) {
	shortLists(3, pairs("", "1", "a", "1", "a", "2", "b", "1"), func(m []api.Pair) {
		shortLists(3, []api.Write{sets("", "3"), sets("a", "3"), sets("b", ""), drops("a"), drops("b")}, func(l []api.Write) {
			checkMaps(t, m, l, api.Range{Low: "a", High: "b"})
		})
		for _, low := range []string{"", "a", "b"} {
			for _, high := range []string{"", "a", "b"} {
				checkMaps(t, m, nil, api.Range{Low: low, High: high})
			}
		}
	})
}

// P15.3: all lists of at most four commits, with timestamps that come often.
func TestAllShortFolds(t *testing.T) {
	of := []api.Commit{
		commit(1, sets("a", "1")), commit(1, sets("b", "1"), drops("a")), commit(1),
		commit(2, sets("a", "2"), sets("b", "2")), commit(2, drops("b")), commit(0, sets("a", "0"), sets("c", "0")), commit(3, drops("c")),
	}
	shortLists(4, of, func(l []api.Commit) {
		for ts := int64(-1); ts < 4; ts++ {
			if got := version.Fold(l, ts); !slices.Equal(got, wordsFold(l, ts)) {
				t.Fatalf("Fold(%v, %d) = %q", l, ts, got)
			}
		}
	})
}

// plenty makes texts, writes and commits of few keys, so that they meet.
type plenty struct{ *rand.Rand }

func (p plenty) text() string {
	b := make([]byte, p.IntN(3))
	for i := range b {
		b[i] = []byte{0, 'a', 'b', 255}[p.IntN(4)]
	}
	return string(b)
}

func (p plenty) writes(most int) []api.Write {
	var l []api.Write
	for range p.IntN(most + 1) {
		w := sets(p.text(), p.text())
		if p.IntN(3) == 0 {
			w = drops(w.Key)
		}
		l = append(l, w)
	}
	return l
}

func (p plenty) pairs(most int) []api.Pair {
	var l []api.Pair
	for range p.IntN(most + 1) {
		l = append(l, api.Pair{Key: p.text(), Value: p.text()})
	}
	return l
}

func (p plenty) commits(most int) []api.Commit {
	var l []api.Commit
	for range p.IntN(most + 1) {
		l = append(l, commit(p.Int64N(30)-3, p.writes(5)...))
	}
	return l
}

// P15.3: long lists of all kinds.
func TestLongMapsByWords(t *testing.T) {
	p := plenty{rand.New(rand.NewPCG(15, 2))}
	for range 3000 {
		checkMaps(t, p.pairs(60), p.writes(60), api.Range{Low: p.text(), High: p.text()})
		l, ts := p.commits(60), p.Int64N(32)-4
		if got := version.Fold(l, ts); !slices.Equal(got, wordsFold(l, ts)) {
			t.Fatalf("Fold(%v, %d) = %q, want %q", l, ts, got, wordsFold(l, ts))
		}
	}
}
