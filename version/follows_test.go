package version_test

import (
	"math/rand/v2"
	"slices"
	"testing"

	"cresset/api"
	"cresset/version"
)

// checkPruned holds P15.4 of a list and a mark: from the mark on it says the same, what is pruned twice is pruned once, and nothing is lost.
func checkPruned(t *testing.T, l []api.Version, mark, upTo int64) {
	t.Helper()
	kept, rest := version.Prune(l, mark)
	for ts := mark; ts <= upTo; ts++ {
		value, there := version.Value(l, ts)
		if got, ok := version.Value(kept, ts); got != value || ok != there {
			t.Fatalf("%v pruned at %d says %q, %v at %d", l, mark, got, ok, ts)
		}
		v, _ := version.At(l, ts)
		if got, ok := version.At(kept, ts); got != v && !(v.Del && v.TS <= mark && !ok) {
			t.Fatalf("%v pruned at %d has %v at %d", l, mark, got, ts)
		}
	}
	again, none := version.Prune(kept, mark)
	if !version.Same(again, kept) || len(none) != 0 {
		t.Fatalf("%v pruned twice at %d: %v, %v", l, mark, again, none)
	}
	if version.Check(kept) != api.OK || version.Check(rest) != api.OK {
		t.Fatalf("%v pruned at %d: %v, %v are not in order", l, mark, kept, rest)
	}
	both := slices.Concat(kept, rest)
	slices.SortFunc(both, func(a, b api.Version) int { return int(b.TS - a.TS) })
	if !version.Same(both, l) {
		t.Fatalf("%v pruned at %d: %v and %v", l, mark, kept, rest)
	}
}

// P15.4: all lists over seven timestamps, each of which has a value, is gone or is not there, at each mark.
func TestPrunedSaysTheSame(t *testing.T) {
	const n = 7
	shortLists(n, []int{0, 1, 2}, func(what []int) {
		if len(what) < n {
			return
		}
		var l []api.Version
		for ts := int64(n); ts > 0; ts-- {
			switch what[ts-1] {
			case 1:
				l = append(l, has(ts, string([]byte{byte('0' + ts)})))
			case 2:
				l = append(l, gone(ts))
			}
		}
		for mark := int64(-1); mark <= n+1; mark++ {
			checkPruned(t, l, mark, n+2)
		}
	})
}

// P15.4: marks that rise, one behind the other, leave what the last one alone leaves.
func TestPrunedByRisingMarks(t *testing.T) {
	r := rand.New(rand.NewPCG(15, 3))
	for range 3000 {
		var l []api.Version
		for ts := int64(1); ts <= 40; ts++ {
			switch r.IntN(3) {
			case 0:
				l, _ = version.Put(l, has(ts, "v"))
			case 1:
				l, _ = version.Put(l, gone(ts))
			}
		}
		kept := l
		for mark := r.Int64N(5); mark < 45; mark += 1 + r.Int64N(20) {
			checkPruned(t, kept, mark, 45)
			kept, _ = version.Prune(kept, mark)
			if once, _ := version.Prune(l, mark); !version.Same(once, kept) {
				t.Fatalf("%v by rising marks up to %d: %v, at once %v", l, mark, kept, once)
			}
		}
	}
}

// P15.5: commit by commit, in whatever order the list has them.
func TestOverlayOfFoldIsFold(t *testing.T) {
	p := plenty{rand.New(rand.NewPCG(15, 4))}
	for range 500 {
		var l []api.Commit
		ts := int64(0)
		for range p.IntN(40) {
			ts += 1 + p.Int64N(3)
			l = append(l, commit(ts, p.writes(8)...))
		}
		mixed := slices.Clone(l)
		p.Shuffle(len(mixed), func(i, j int) { mixed[i], mixed[j] = mixed[j], mixed[i] })
		ahead := int64(0)
		for _, c := range l {
			over := version.Overlay(version.Fold(mixed, ahead), c.Writes...)
			if next := version.Fold(mixed, c.TS); !slices.Equal(over, next) {
				t.Fatalf("%v: Fold up to %d and its writes: %q, Fold up to %d: %q", mixed, ahead, over, c.TS, next)
			}
			ahead = c.TS
		}
	}
}

// A map that is gone through is the map; the versions of each key say what Fold says.
func TestFoldAndVersionsAgree(t *testing.T) {
	p := plenty{rand.New(rand.NewPCG(15, 5))}
	for range 300 {
		var l []api.Commit
		versions := map[string][]api.Version{}
		for ts := int64(1); ts <= 20; ts++ {
			c := commit(ts, eachKeyOnce(p)...)
			l = append(l, c)
			for _, w := range c.Writes {
				next, e := version.Put(versions[w.Key], api.Version{TS: ts, Value: w.Value, Del: w.Del})
				want(t, "Put", e, api.OK)
				versions[w.Key] = next
			}
		}
		for ts := int64(0); ts <= 21; ts++ {
			var m []api.Pair
			for key, list := range versions {
				if value, ok := version.Value(list, ts); ok {
					m = append(m, api.Pair{Key: key, Value: value})
				}
			}
			fold := version.Fold(l, ts)
			if got := told(version.Map(m...)); !slices.Equal(got, fold) || !slices.Equal(told(version.Map(fold...)), fold) || !slices.Equal(version.Overlay(m), fold) {
				t.Fatalf("at %d the versions say %q, Fold %q", ts, got, fold)
			}
		}
	}
}

// eachKeyOnce is the writes of a commit that may be: each key once.
func eachKeyOnce(p plenty) []api.Write {
	l := p.writes(8)
	slices.SortStableFunc(l, func(a, b api.Write) int { return slices.Compare([]byte(a.Key), []byte(b.Key)) })
	return slices.CompactFunc(l, func(a, b api.Write) bool { return a.Key == b.Key })
}
