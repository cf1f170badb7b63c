package version_test

import (
	"iter"
	"math"
	"slices"
	"strconv"
	"strings"
	"testing"

	"cresset/api"
	"cresset/version"
)

// The calls that the chapter lists keep their signatures.
var (
	_ func([]api.Version) api.Errno                               = version.Check
	_ func([]api.Version, int64) (api.Version, bool)              = version.At
	_ func([]api.Version, int64) (string, bool)                   = version.Value
	_ func([]api.Version, api.Version) ([]api.Version, api.Errno) = version.Put
	_ func([]api.Version, int64) ([]api.Version, []api.Version)   = version.Prune
	_ func([]api.Commit, int64) []api.Pair                        = version.Fold
	_ func(...api.Pair) iter.Seq2[string, string]                 = version.Map
	_ func([]api.Pair, ...api.Write) []api.Pair                   = version.Overlay
	_ func([]api.Pair, api.Range) []api.Pair                      = version.Slice
	_ func([]api.Version, []api.Version) bool                     = version.Same
)

func TestErrorsHaveTheirNumbers(t *testing.T) {
	got := []api.Errno{api.OK, api.ErrLong, api.ErrOrder, api.ErrVersion, api.MaxVersions, api.MaxTS, api.MaxValue}
	if wanted := []api.Errno{0, 3, 150, 151, 1024, maxTS, 256}; !slices.Equal(got, wanted) {
		t.Errorf("errors and limits are %v, want %v", got, wanted)
	}
}

// R1: whatever is handed in, each call ends, and none panics.
func TestAnyArguments(t *testing.T) {
	stamps := []int64{math.MinInt64, math.MinInt64 + 1, -1, 0, 1, maxTS - 1, maxTS, maxTS + 1, math.MaxInt64 - 1, math.MaxInt64}
	texts := []string{"", "\x00", "\xff", "\xed\xa0\x80", "é", longest, strings.Repeat("\xff", 5000)}
	var versions []api.Version
	var commits []api.Commit
	var m []api.Pair
	for i, ts := range stamps {
		s := texts[i%len(texts)]
		versions = append(versions, has(ts, s), gone(ts), api.Version{TS: ts, Value: s, Del: true})
		commits = append(commits, commit(ts, sets(s, s), drops(s), api.Write{Key: s, Value: s, Del: true}, sets(s, "x")), commit(ts))
		m = append(m, api.Pair{Key: s, Value: s})
	}
	for _, ts := range stamps {
		for _, v := range versions {
			checkVersions(t, versions, ts, v)
			checkVersions(t, list(v), ts, v)
		}
		if got := version.Fold(commits, ts); !slices.Equal(got, wordsFold(commits, ts)) {
			t.Errorf("Fold at %d = %q", ts, got)
		}
	}
	for _, low := range texts {
		for _, high := range texts {
			checkMaps(t, m, commits[0].Writes, api.Range{Low: low, High: high})
		}
	}
}

// R3: lists that are handed in are left as they are, also behind their ends.
func TestWhatIsHandedInIsLeft(t *testing.T) {
	versions := list(has(9, "b"), gone(5), has(2, "a"), gone(1), has(77, "behind"), gone(78))
	m := pairs("b", "2", "a", "1", "b", "3", "z", "behind", "y", "behind")
	writes := []api.Write{sets("c", "1"), drops("b"), sets("a", "2"), sets("z", "behind"), drops("y")}
	commits := []api.Commit{commit(3, writes[:3]...), commit(1, sets("a", "1")), commit(2, drops("a")), commit(9, sets("q", "1")), commit(0, drops("behind"))}
	beforeVersions, beforeMap, beforeWrites, beforeCommits := slices.Clone(versions), slices.Clone(m), slices.Clone(writes), slices.Clone(commits)
	for range 2 {
		version.Check(versions[:4])
		version.At(versions[:4], 3)
		version.Value(versions[:4], 3)
		version.Put(versions[:4], has(10, "c"))
		version.Put(versions[:0], has(10, "c"))
		version.Same(versions[:4], versions[:3])
		for mark := range int64(12) {
			version.Prune(versions[:4], mark)
			version.Fold(commits[:4], mark)
		}
		told(version.Map(m[:3]...))
		version.Overlay(m[:3], writes[:3]...)
		version.Overlay(m[:0], writes[:0]...)
		version.Slice(m[:3], api.Range{Low: "a", High: "b"})
		alike := slices.EqualFunc(commits, beforeCommits, func(a, b api.Commit) bool { return a.TS == b.TS && slices.Equal(a.Writes, b.Writes) })
		if !slices.Equal(versions, beforeVersions) || !slices.Equal(m, beforeMap) || !slices.Equal(writes, beforeWrites) || !alike {
			t.Fatalf("what was handed in is %v, %q, %v, %v", versions, m, writes, commits)
		}
	}
}

// R3: what is answered is the caller's own: nothing of it is shared with what was handed in, and no two lists with each other.
func TestAnswersAreTheCallers(t *testing.T) {
	l := make([]api.Version, 0, 20)
	l = append(l, has(9, "b"), gone(5), has(2, "a"))
	spoil := func(x []api.Version) {
		for i := range x {
			x[i] = has(-1, "spoilt")
		}
		_ = append(x, has(-1, "spoilt"), has(-1, "spoilt"))
	}
	for mark := range int64(11) {
		kept, rest := version.Prune(l, mark)
		otherKept, otherRest := version.Prune(l, mark)
		whole := slices.Clone(rest)
		spoil(kept)
		wantList(t, "the others", rest, whole...)
		spoil(rest)
		wantList(t, "what was handed in", l, has(9, "b"), gone(5), has(2, "a"))
		if a, b := version.Prune(l, mark); !version.Same(a, otherKept) || !version.Same(b, otherRest) {
			t.Errorf("Prune at %d again: %v, %v", mark, a, b)
		}
	}
	put, _ := version.Put(l, has(10, "c"))
	other, _ := version.Put(l, has(11, "d"))
	spoil(put)
	wantList(t, "what was handed in", l[:cap(l)][:6], has(9, "b"), gone(5), has(2, "a"), api.Version{}, api.Version{}, api.Version{})
	wantList(t, "the other answer", other, has(11, "d"), has(9, "b"), gone(5), has(2, "a"))
	l[0] = has(8, "z")
	wantList(t, "the answer behind a change", other, has(11, "d"), has(9, "b"), gone(5), has(2, "a"))
}

// R3: the maps that are answered are the caller's own, too.
func TestMapsAreTheCallers(t *testing.T) {
	m := append(make([]api.Pair, 0, 20), pairs("a", "1", "b", "2")...)
	c := []api.Commit{commit(1, sets("a", "1"), sets("b", "2"))}
	for what, ask := range map[string]func() []api.Pair{
		"Slice":   func() []api.Pair { return version.Slice(m, api.Range{}) },
		"Overlay": func() []api.Pair { return version.Overlay(m) },
		"Fold":    func() []api.Pair { return version.Fold(c, 1) },
		"Map":     func() []api.Pair { return told(version.Map(m...)) },
	} {
		first := ask()
		for i := range first {
			first[i] = api.Pair{Key: "spoilt"}
		}
		_ = append(first, api.Pair{Key: "spoilt"})
		wantPairs(t, what+" again", ask(), "a", "1", "b", "2")
		wantPairs(t, what+": what was handed in", m[:3], "a", "1", "b", "2", "", "")
		second := ask()
		m[0].Value, c[0].Writes[0].Value = "changed", "changed"
		wantPairs(t, what+" behind a change", second, "a", "1", "b", "2")
		m[0].Value, c[0].Writes[0].Value = "1", "1"
	}
}

// R3: Map tells what was there when it was asked for; it may stop at any point, and be done again.
func TestMapTellsWhatWasThere(t *testing.T) {
	l := pairs("c", "3", "a", "1", "b", "2", "a", "4")
	seq := version.Map(l...)
	l[0], l[1], l[3] = api.Pair{Key: "0", Value: "0"}, api.Pair{Key: "z"}, api.Pair{Key: "b", Value: "9"}
	wantPairs(t, "behind a change", told(seq), "a", "4", "b", "2", "c", "3")
	for stop := 1; stop <= 3; stop++ {
		var got []api.Pair
		for key, value := range seq {
			got = append(got, api.Pair{Key: key, Value: value})
			l[2].Value = "changed on the way"
			wantPairs(t, "within", told(seq), "a", "4", "b", "2", "c", "3")
			if len(got) == stop {
				break
			}
		}
		wantPairs(t, "up to where it stopped", got, []string{"a", "4", "b", "2", "c", "3"}[:2*stop]...)
	}
	wantPairs(t, "again", told(seq), "a", "4", "b", "2", "c", "3")
}

// R4: empty and nil lists are the same.
func TestEmptyAndNilLists(t *testing.T) {
	for _, l := range [][]api.Version{nil, {}} {
		want(t, "Check", version.Check(l), api.OK)
		if v, ok := version.At(l, 9); v != (api.Version{}) || ok {
			t.Errorf("At of none = %v, %v", v, ok)
		}
		wantValue(t, l, 9, "", false)
		wantPrune(t, l, 9, nil, nil)
		got, e := version.Put(l, has(1, "a"))
		want(t, "Put", e, api.OK)
		wantList(t, "Put", got, has(1, "a"))
	}
	for _, m := range [][]api.Pair{nil, {}} {
		wantPairs(t, "Map", told(version.Map(m...)))
		wantPairs(t, "Slice", version.Slice(m, api.Range{}))
		for _, w := range [][]api.Write{nil, {}} {
			wantPairs(t, "Overlay", version.Overlay(m, w...))
			wantPairs(t, "Overlay", version.Overlay(pairs("a", "1"), w...), "a", "1")
			wantPairs(t, "Fold", version.Fold([]api.Commit{{TS: 1, Writes: w}}, 1))
		}
	}
	wantPairs(t, "Fold of nil", version.Fold(nil, 1))
	wantPairs(t, "Fold of none", version.Fold([]api.Commit{}, 1))
}

// R6: the order of a Go map is not to be seen in an answer.
func TestSameAgain(t *testing.T) {
	var m []api.Pair
	var w []api.Write
	for i := range 300 {
		m = append(m, api.Pair{Key: strconv.Itoa(i * 7919 % 1000), Value: strconv.Itoa(i)})
		w = append(w, api.Write{Key: strconv.Itoa(i * 31 % 700), Del: i%3 == 0})
	}
	first, over, fold := told(version.Map(m...)), version.Overlay(m, w...), version.Fold([]api.Commit{commit(1, w...)}, 1)
	for range 50 {
		if !slices.Equal(told(version.Map(m...)), first) || !slices.Equal(version.Overlay(m, w...), over) || !slices.Equal(version.Fold([]api.Commit{commit(1, w...)}, 1), fold) {
			t.Fatal("another answer the second time")
		}
	}
}

// The bound: lists of this length would not end in time if each part were held against each other one.
func TestLongLists(t *testing.T) {
	const many = 300000
	name := func(n int) string { return strconv.Itoa(1000000 + n) }
	var m []api.Pair
	var w []api.Write
	var c []api.Commit
	for i := range many {
		at := i * 7919 % many // each place once, far from the last one
		m = append(m, api.Pair{Key: name(at), Value: "m"})
		w = append(w, api.Write{Key: name(at + many/2), Value: "w"})
		c = append(c, commit(int64(at/3), sets(name(at), "c"), drops(name(at+1))))
	}
	if got := told(version.Map(m...)); len(got) != many || got[1] != (api.Pair{Key: name(1), Value: "m"}) {
		t.Fatalf("Map has %d", len(got))
	}
	over := version.Overlay(m, w...)
	if len(over) != many+many/2 || over[0].Value != "m" || over[many/2].Value != "w" {
		t.Fatalf("Overlay has %d", len(over))
	}
	if got := version.Slice(over, api.Range{Low: name(many)}); len(got) != many/2 {
		t.Fatalf("Slice has %d", len(got))
	}
	if got := version.Fold(c, many); len(got) == 0 || len(got) > many {
		t.Fatalf("Fold has %d", len(got))
	}
	l := falling(maxTS, many)
	if kept, rest := version.Prune(l, maxTS-many/2); len(kept) != many/2+1 || len(rest) != many/2-1 {
		t.Fatalf("Prune has %d, %d", len(kept), len(rest))
	}
	if v, ok := version.At(l, maxTS-many+1); !ok || v.TS != maxTS-many+1 {
		t.Fatalf("At has %v", v)
	}
	if !version.Same(l, slices.Clone(l)) {
		t.Fatal("Same of long lists")
	}
}
