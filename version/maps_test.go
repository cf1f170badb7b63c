package version_test

import (
	"iter"
	"math"
	"slices"
	"strings"
	"testing"

	"cresset/api"
	"cresset/version"
)

// pairs is a map or a list of pairs: a key, its value, the next key and so on.
func pairs(l ...string) []api.Pair {
	var list []api.Pair
	for i := 0; i < len(l); i += 2 {
		list = append(list, api.Pair{Key: l[i], Value: l[i+1]})
	}
	return list
}

func sets(key, value string) api.Write { return api.Write{Key: key, Value: value} }

func drops(key string) api.Write { return api.Write{Key: key, Del: true} }

func commit(ts int64, l ...api.Write) api.Commit { return api.Commit{TS: ts, Writes: l} }

func told(seq iter.Seq2[string, string]) []api.Pair {
	var list []api.Pair
	for key, value := range seq {
		list = append(list, api.Pair{Key: key, Value: value})
	}
	return list
}

func wantPairs(t *testing.T, what string, got []api.Pair, wanted ...string) {
	t.Helper()
	if !slices.Equal(got, pairs(wanted...)) {
		t.Errorf("%s: %q, want %q", what, got, wanted)
	}
}

// P15.3: the map of commits, at each timestamp.
func TestFold(t *testing.T) {
	l := []api.Commit{
		commit(1, sets("b", "1"), sets("a", "1")),
		commit(2, drops("a"), sets("c", "2")),
		commit(4, sets("a", ""), drops("x")),
		commit(5, drops("b"), drops("c"), drops("a")),
	}
	for _, c := range []struct {
		ts     int64
		wanted []string
	}{
		{math.MinInt64, nil},
		{0, nil},
		{1, []string{"a", "1", "b", "1"}},
		{2, []string{"b", "1", "c", "2"}},
		{3, []string{"b", "1", "c", "2"}},
		{4, []string{"a", "", "b", "1", "c", "2"}},
		{5, nil},
		{math.MaxInt64, nil},
	} {
		for range l {
			l = append(l[1:], l[0]) // in any order of the list
			wantPairs(t, "Fold", version.Fold(l, c.ts), c.wanted...)
		}
		slices.Reverse(l)
		wantPairs(t, "Fold", version.Fold(l, c.ts), c.wanted...)
	}
	wantPairs(t, "Fold of none", version.Fold(nil, 9))
	wantPairs(t, "Fold of what writes nothing", version.Fold([]api.Commit{{TS: 1}, {TS: 2, Writes: []api.Write{}}}, 9))
}

// P15.3: of one timestamp in the order of the list, also among many others.
func TestFoldOfAlikeTimestamps(t *testing.T) {
	x, y := commit(7, sets("a", "x"), sets("b", "x")), commit(7, sets("a", "y"), drops("b"))
	wantPairs(t, "x, y", version.Fold([]api.Commit{x, y}, 7), "a", "y")
	wantPairs(t, "y, x", version.Fold([]api.Commit{y, x}, 7), "a", "x", "b", "x")
	var l []api.Commit
	for i := range 1000 {
		l = append(l, commit(int64(7-i%3), sets(string([]byte{byte(i % 3)}), strings.Repeat("v", i))))
	}
	wantPairs(t, "the last of each", version.Fold(l, 7),
		"\x00", strings.Repeat("v", 999), "\x01", strings.Repeat("v", 997), "\x02", strings.Repeat("v", 998))
}

// P15.3: the writes of a commit in their order, whatever they say: a key twice, gone with a value, the empty text, timestamps that may not be.
func TestFoldOfAnyCommits(t *testing.T) {
	wantPairs(t, "twice", version.Fold([]api.Commit{commit(1, sets("a", "1"), sets("a", "2"))}, 1), "a", "2")
	wantPairs(t, "gone, and there", version.Fold([]api.Commit{commit(1, drops("a"), sets("a", "2"))}, 1), "a", "2")
	wantPairs(t, "there, and gone", version.Fold([]api.Commit{commit(1, sets("a", "2"), drops("a"))}, 1))
	wantPairs(t, "gone with a value", version.Fold([]api.Commit{commit(1, sets("a", "2"), api.Write{Key: "a", Value: "3", Del: true})}, 1))
	long := strings.Repeat("k", 1000)
	wantPairs(t, "any texts", version.Fold([]api.Commit{commit(1, sets(long, long), sets("", ""))}, 1), "", "", long, long)
	odd := []api.Commit{commit(math.MaxInt64, sets("a", "most")), commit(math.MinInt64, sets("a", "least"), sets("b", "least")), commit(-1, sets("a", "-1"))}
	wantPairs(t, "up to the least", version.Fold(odd, math.MinInt64), "a", "least", "b", "least")
	wantPairs(t, "up to -2", version.Fold(odd, -2), "a", "least", "b", "least")
	wantPairs(t, "up to 0", version.Fold(odd, 0), "a", "-1", "b", "least")
	wantPairs(t, "up to the most", version.Fold(odd, math.MaxInt64), "a", "most", "b", "least")
}

// P15.3: pairs as a map.
func TestMap(t *testing.T) {
	wantPairs(t, "none", told(version.Map()))
	wantPairs(t, "in order", told(version.Map(pairs("a", "1", "b", "2")...)), "a", "1", "b", "2")
	wantPairs(t, "out of order", told(version.Map(pairs("b", "2", "c", "3", "a", "1")...)), "a", "1", "b", "2", "c", "3")
	wantPairs(t, "a key often", told(version.Map(pairs("b", "1", "a", "1", "b", "2", "a", "", "b", "3")...)), "a", "", "b", "3")
	wantPairs(t, "by bytes", told(version.Map(pairs("\xff", "7", "ab", "4", "", "1", "a", "3", "\xc3\xa9", "6", "\x00", "2", "b", "5")...)),
		"", "1", "\x00", "2", "a", "3", "ab", "4", "b", "5", "\xc3\xa9", "6", "\xff", "7")
}

// P15.3: the map, and then the writes, in order.
func TestOverlay(t *testing.T) {
	m := pairs("b", "2", "a", "1", "b", "3")
	wantPairs(t, "no writes", version.Overlay(m), "a", "1", "b", "3")
	wantPairs(t, "over it", version.Overlay(m, sets("a", "x")), "a", "x", "b", "3")
	wantPairs(t, "beside it", version.Overlay(m, sets("c", ""), sets("", "y")), "", "y", "a", "1", "b", "3", "c", "")
	wantPairs(t, "gone", version.Overlay(m, drops("b")), "a", "1")
	wantPairs(t, "all gone", version.Overlay(m, drops("b"), drops("a"), drops("a"), drops("q")))
	wantPairs(t, "gone, and there", version.Overlay(m, drops("b"), sets("b", "z")), "a", "1", "b", "z")
	wantPairs(t, "there, and gone", version.Overlay(m, sets("b", "z"), sets("c", "z"), drops("b"), drops("c")), "a", "1")
	wantPairs(t, "the last one", version.Overlay(m, sets("b", "x"), sets("b", "y"), sets("b", "w")), "a", "1", "b", "w")
	wantPairs(t, "gone with a value", version.Overlay(m, api.Write{Key: "a", Value: "x", Del: true}), "b", "3")
	wantPairs(t, "over nothing", version.Overlay(nil, sets("b", "1"), sets("a", "2")), "a", "2", "b", "1")
	wantPairs(t, "nothing over nothing", version.Overlay(nil))
}

// P15.3: the pairs in a range, as they stand in the list: it need be no map.
func TestSlice(t *testing.T) {
	m := pairs("a", "1", "ab", "2", "b", "3", "c", "4")
	for _, c := range []struct {
		low, high string
		wanted    []string
	}{
		{"", "", []string{"a", "1", "ab", "2", "b", "3", "c", "4"}},
		{"a", "b", []string{"a", "1", "ab", "2"}},
		{"a\x00", "b\x00", []string{"ab", "2", "b", "3"}},
		{"b", "", []string{"b", "3", "c", "4"}},
		{"c", "", []string{"c", "4"}},
		{"c\x00", "", nil},
		{"", "a", nil},
		{"", "ab", []string{"a", "1"}},
		{"b", "b", nil},
		{"c", "a", nil},
	} {
		wantPairs(t, "Slice", version.Slice(m, api.Range{Low: c.low, High: c.high}), c.wanted...)
	}
	wantPairs(t, "of none", version.Slice(nil, api.Range{}))
	mixed := pairs("c", "1", "", "2", "a", "3", "c", "4", "a", "5", "a", "3")
	wantPairs(t, "of any list", version.Slice(mixed, api.Range{High: "b"}), "", "2", "a", "3", "a", "5", "a", "3")
	wantPairs(t, "of any list, all", version.Slice(mixed, api.Range{}), "c", "1", "", "2", "a", "3", "c", "4", "a", "5", "a", "3")
	wantPairs(t, "without the empty text", version.Slice(mixed, api.Range{Low: "\x00", High: "c"}), "a", "3", "a", "5", "a", "3")
}
