package image_test

import (
	"maps"
	"math/rand/v2"
	"slices"
	"testing"

	"cresset/api"
	"cresset/image"
	"cresset/version"
)

// P18.4: of images of each length up to six chunks, and of long random ones.
func TestBuildOfChunksIsPairs(t *testing.T) {
	for many := range 97 {
		m := full(t, many)
		got, e := image.Build(slices.Collect(m.Chunks())...)
		want(t, "Build", e, api.OK)
		wantPairs(t, "Build of Chunks", got, rising(many)...)
	}
	p := plenty{rand.New(rand.NewPCG(18, 5))}
	for range 300 {
		m := newImage(t, p.Int64N(30))
		for at := range 1 + p.IntN(255) {
			want(t, "Add", m.Add(string([]byte{byte(at)}), p.past(30)...), api.OK)
		}
		got, e := image.Build(slices.Collect(m.Chunks())...)
		want(t, "Build", e, api.OK)
		wantPairs(t, "Build of Chunks", got, slices.Collect(m.Pairs())...)
	}
}

// past is what a key had up to a timestamp.
func (p plenty) past(upTo int64) []api.Version {
	var l []api.Version
	for ts := int64(1); ts <= upTo; ts++ {
		switch p.IntN(12) {
		case 0:
			l = slices.Insert(l, 0, has(ts, p.text(2)))
		case 1:
			l = slices.Insert(l, 0, gone(ts))
		}
	}
	return l
}

// mustRedo is what commits make of pairs, all of them right.
func mustRedo(t *testing.T, l []api.Stamped, ts int64, c []api.Commit) ([]api.Stamped, int64) {
	t.Helper()
	list, last, e := image.Redo(l, ts, c...)
	if e != api.OK {
		t.Fatalf("Redo(%v, %d, %v): %d", l, ts, c, e)
	}
	return list, last
}

// checkAgain holds P18.5: again changes nothing, and by a beginning first, and then by all, is by all.
func checkAgain(t *testing.T, l []api.Stamped, ts int64, c []api.Commit) {
	t.Helper()
	all, last := mustRedo(t, l, ts, c)
	for first := range len(c) + 1 {
		part, upTo := mustRedo(t, l, ts, c[:first])
		if again, lastAgain := mustRedo(t, part, upTo, c[:first]); !slices.Equal(again, part) || lastAgain != upTo {
			t.Fatalf("%v at %d by %v: %v, %d, again %v, %d", l, ts, c[:first], part, upTo, again, lastAgain)
		}
		if whole, lastWhole := mustRedo(t, part, upTo, c); !slices.Equal(whole, all) || lastWhole != last {
			t.Fatalf("%v at %d by the first %d of %v: %v, %d, by all %v, %d", l, ts, first, c, whole, lastWhole, all, last)
		}
		if whole, lastWhole := mustRedo(t, part, upTo, c[first:]); !slices.Equal(whole, all) || lastWhole != last {
			t.Fatalf("%v at %d by the first %d of %v, then the others: %v, %d, by all %v, %d", l, ts, first, c, whole, lastWhole, all, last)
		}
	}
}

// P18.5: all rising runs of five commits, of which each key is written, gone or left alone.
func TestAgainOfShortRuns(t *testing.T) {
	l := stamped(pair("a", "0", 1), pair("b", "0", 1))
	of := [][]api.Write{nil, {sets("a", "n")}, {drops("a"), sets("c", "n")}, {drops("b"), drops("c")}, {sets("b", "m"), sets("c", "m")}}
	shortLists(5, of, func(w [][]api.Write) {
		var c []api.Commit
		for i, x := range w {
			if len(x) > 0 {
				c = append(c, commit(int64(i+2), x...))
			}
		}
		for ts := int64(1); ts <= 4; ts++ {
			checkAgain(t, l, ts, c)
		}
	})
}

// P18.5: long runs; some of the commits are in the snapshot already.
func TestAgainOfLongRuns(t *testing.T) {
	p := plenty{rand.New(rand.NewPCG(18, 6))}
	for range 300 {
		l, _ := mustRedo(t, nil, 0, p.commits(10, 0, 0))
		checkAgain(t, l, p.Int64N(40), p.commits(30, 0, 0))
	}
}

// history is commits one behind the other, and what each key had.
func (p plenty) history(t *testing.T, many int) ([]api.Commit, map[string][]api.Version) {
	t.Helper()
	var l []api.Commit
	had := map[string][]api.Version{}
	for ts := int64(1); ts <= int64(many); ts++ {
		c := commit(ts, p.writes(6)...)
		l = append(l, c)
		for _, w := range c.Writes {
			next, e := version.Put(had[w.Key], api.Version{TS: ts, Value: w.Value, Del: w.Del})
			want(t, "Put", e, api.OK)
			had[w.Key] = next
		}
	}
	return l, had
}

// imageOf is the image of a snapshot whose keys had these versions.
func imageOf(t *testing.T, ts int64, had map[string][]api.Version) *image.Image {
	t.Helper()
	m := newImage(t, ts)
	for _, key := range slices.Sorted(maps.Keys(had)) {
		want(t, "Add", m.Add(key, had[key]...), api.OK)
	}
	return m
}

// P18.6: at each snapshot of a history, also when versions that a snapshot from it on can't need were pruned.
func TestMapOfAnImageIsFold(t *testing.T) {
	p := plenty{rand.New(rand.NewPCG(18, 7))}
	for range 150 {
		many := p.IntN(30)
		l, had := p.history(t, many)
		for ts := int64(0); ts <= int64(many)+1; ts++ {
			fold := version.Fold(l, ts)
			pairs := slices.Collect(imageOf(t, ts, had).Pairs())
			if got := image.Map(pairs); !slices.Equal(got, fold) {
				t.Fatalf("%v at %d: the image has %v, Fold %v", l, ts, got, fold)
			}
			pruned := map[string][]api.Version{}
			mark := p.Int64N(ts + 1)
			for key, list := range had {
				pruned[key], _ = version.Prune(list, mark)
			}
			if got := slices.Collect(imageOf(t, ts, pruned).Pairs()); !slices.Equal(got, pairs) {
				t.Fatalf("%v at %d, pruned at %d: %v, want %v", l, ts, mark, got, pairs)
			}
		}
	}
}

// An image, and the commits behind it, are the image of a later snapshot: with their timestamps.
func TestImageAndCommitsAreALaterImage(t *testing.T) {
	p := plenty{rand.New(rand.NewPCG(18, 8))}
	for range 100 {
		many := 1 + p.IntN(25)
		l, had := p.history(t, many)
		for ts := int64(0); ts <= int64(many); ts++ {
			pairs := slices.Collect(imageOf(t, ts, had).Pairs())
			later := ts + p.Int64N(int64(many)-ts+1)
			from := p.Int64N(ts + 1) // some that the image has already come again
			got, last := mustRedo(t, pairs, ts, l[from:later])
			wantPairs(t, "the later image", got, slices.Collect(imageOf(t, later, had).Pairs())...)
			if last != later {
				t.Fatalf("up to %d, want %d", last, later)
			}
		}
	}
}
