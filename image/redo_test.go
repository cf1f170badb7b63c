package image_test

import (
	"math"
	"slices"
	"strings"
	"testing"

	"cresset/api"
	"cresset/image"
)

func sets(key, value string) api.Write { return api.Write{Key: key, Value: value} }

func drops(key string) api.Write { return api.Write{Key: key, Del: true} }

func commit(ts int64, w ...api.Write) api.Commit { return api.Commit{TS: ts, Writes: w} }

func stamped(l ...api.Stamped) []api.Stamped { return l }

func wantRedo(t *testing.T, what string, l []api.Stamped, ts int64, c []api.Commit, upTo int64, wanted ...api.Stamped) {
	t.Helper()
	got, last, e := image.Redo(l, ts, c...)
	if e != api.OK || last != upTo || !slices.Equal(got, wanted) {
		t.Errorf("%s: Redo = %v, %d, %d, want %v, %d", what, got, last, e, wanted, upTo)
	}
}

func refuseRedo(t *testing.T, what string, wanted api.Errno, l []api.Stamped, ts int64, c ...api.Commit) {
	t.Helper()
	if got, last, e := image.Redo(l, ts, c...); got != nil || last != 0 || e != wanted {
		t.Errorf("%s: Redo = %v, %d, %d, want error %d alone", what, got, last, e, wanted)
	}
}

// The chapter's second example.
func TestExampleOfRedo(t *testing.T) {
	c := []api.Commit{commit(6, drops("a")), commit(8, sets("b", "q"))}
	wantRedo(t, "the example", stamped(pair("a", "x", 5)), 6, c, 8, pair("a", "x", 5), pair("b", "q", 8))
}

// P18.3: what commits make of pairs.
func TestRedo(t *testing.T) {
	l := stamped(pair("b", "1", 2), pair("d", "2", 3), pair("f", "3", 4))
	one := func(c ...api.Commit) []api.Commit { return c }
	wantRedo(t, "no commits", l, 4, nil, 4, l...)
	wantRedo(t, "nothing at all", nil, 7, nil, 7)
	wantRedo(t, "a key ahead of all", l, 4, one(commit(5, sets("a", "n"))), 5, pair("a", "n", 5), l[0], l[1], l[2])
	wantRedo(t, "a key between", l, 4, one(commit(5, sets("c", "n"))), 5, l[0], pair("c", "n", 5), l[1], l[2])
	wantRedo(t, "a key behind all", l, 4, one(commit(5, sets("g", ""))), 5, l[0], l[1], l[2], pair("g", "", 5))
	wantRedo(t, "a key that is there", l, 4, one(commit(5, sets("d", "n"))), 5, l[0], pair("d", "n", 5), l[2])
	wantRedo(t, "its value again", l, 4, one(commit(5, sets("d", "2"))), 5, l[0], pair("d", "2", 5), l[2])
	wantRedo(t, "a key gone", l, 4, one(commit(5, drops("d"))), 5, l[0], l[2])
	wantRedo(t, "a key gone that was not there", l, 4, one(commit(5, drops("c"))), 5, l...)
	wantRedo(t, "all gone", l, 4, one(commit(5, drops("b"), drops("d"), drops("f"))), 5)
	wantRedo(t, "gone and there again", l, 4, one(commit(5, drops("d")), commit(9, sets("d", "n"))), 9, l[0], pair("d", "n", 9), l[2])
	wantRedo(t, "there and gone again", l, 4, one(commit(5, sets("c", "n")), commit(6, drops("c"))), 6, l...)
	wantRedo(t, "twice", l, 4, one(commit(5, sets("c", "n")), commit(6, sets("c", "m"))), 6, l[0], pair("c", "m", 6), l[1], l[2])
	wantRedo(t, "of none", nil, 0, one(commit(1, sets("a", "1"), sets("b", "2")), commit(2, drops("a"))), 2, pair("b", "2", 1))
	wantRedo(t, "the greatest ones", nil, maxTS-1, one(commit(maxTS, sets(longKey, longValue))), maxTS, pair(longKey, longValue, maxTS))
}

// P18.3: what is not above the snapshot counts for nothing, wherever it stands; timestamps may have gaps.
func TestRedoOfWhatTheSnapshotHas(t *testing.T) {
	l := stamped(pair("b", "1", 2))
	wantRedo(t, "at the snapshot", l, 4, []api.Commit{commit(4, drops("b"))}, 4, l...)
	wantRedo(t, "below it", l, 4, []api.Commit{commit(3, sets("b", "n")), commit(1, sets("a", "n"))}, 4, l...)
	wantRedo(t, "one above it", l, 4, []api.Commit{commit(4, drops("b")), commit(5, sets("b", "n"))}, 5, pair("b", "n", 5))
	wantRedo(t, "in any order", l, 4, []api.Commit{commit(4, drops("b")), commit(2, drops("b")), commit(4, sets("a", "n")), commit(1, drops("b"))}, 4, l...)
	wantRedo(t, "behind one that counts", l, 4, []api.Commit{commit(9, sets("a", "n")), commit(4, drops("b")), commit(1, drops("a")), commit(20, sets("c", "n"))}, 20,
		pair("a", "n", 9), pair("b", "1", 2), pair("c", "n", 20))
	for _, ts := range []int64{maxTS, maxTS + 1, math.MaxInt64} {
		wantRedo(t, "a great snapshot", l, ts, []api.Commit{commit(maxTS, drops("b"))}, ts, l...)
	}
	for _, ts := range []int64{0, -1, math.MinInt64} {
		wantRedo(t, "a small snapshot", l, ts, []api.Commit{commit(1, drops("b"))}, 1)
		wantRedo(t, "a small snapshot without commits", l, ts, nil, ts, l...)
	}
}

// P18.3: what is not in order.
func TestRedoOrder(t *testing.T) {
	a, b := commit(5, sets("a", "1")), commit(6, sets("a", "2"))
	refuseRedo(t, "the same timestamp", api.ErrOrder, nil, 4, a, a)
	refuseRedo(t, "a lesser one", api.ErrOrder, nil, 4, b, a)
	refuseRedo(t, "a lesser one behind one that does not count", api.ErrOrder, nil, 4, b, commit(4, sets("a", "3")), a)
	refuseRedo(t, "the same behind one that does not count", api.ErrOrder, nil, 4, a, commit(2, sets("a", "3")), a)
	refuseRedo(t, "a key twice", api.ErrOrder, stamped(pair("a", "", 1), pair("a", "", 2)), 4)
	refuseRedo(t, "keys that fall", api.ErrOrder, stamped(pair("b", "", 1), pair("a", "", 2)), 4)
	refuseRedo(t, "the last one", api.ErrOrder, stamped(pair("a", "", 1), pair("b", "", 2), pair("aa", "", 2)), 4)
	refuseRedo(t, "a beginning behind the whole", api.ErrOrder, stamped(pair("ab", "", 1), pair("a", "", 2)), 4, a)
	refuseRedo(t, "bytes above 127", api.ErrOrder, stamped(pair("\x80", "", 1), pair("\x7f", "", 2)), 4, a)
	refuseRedo(t, "the empty text twice", api.ErrOrder, stamped(pair("", "", 1), pair("", "", 2)), 4)
	refuseRedo(t, "the empty text behind a key", api.ErrOrder, stamped(pair("a", "", 1), pair("", "", 2)), 4)
}

// P18.3: pairs are asked for their order alone.
func TestRedoOfAnyPairs(t *testing.T) {
	odd := stamped(pair("", longValue+"v", -7), pair("a", "x", 99), pair(strings.Repeat("k", 1000), "", math.MaxInt64))
	wantRedo(t, "odd pairs", odd, 4, nil, 4, odd...)
	wantRedo(t, "odd pairs and a commit", odd, 4, []api.Commit{commit(5, sets("a", "y"), sets("b", "z"))}, 5,
		odd[0], pair("a", "y", 5), pair("b", "z", 5), odd[2])
}

// P18.3: record.CheckCommit's error, also of a commit that counts for nothing.
func TestRedoRefusesCommits(t *testing.T) {
	var many []api.Write
	for i := range 65 {
		many = append(many, sets(name(i), ""))
	}
	for _, c := range []struct {
		why  string
		c    api.Commit
		want api.Errno
	}{
		{"a timestamp 0", commit(0, sets("a", "")), api.ErrField},
		{"one below 0", commit(-1, sets("a", "")), api.ErrField},
		{"one above MaxTS", commit(maxTS+1, sets("a", "")), api.ErrField},
		{"no writes", commit(6), api.ErrField},
		{"65 writes", commit(6, many...), api.ErrField},
		{"an empty key", commit(6, sets("", "")), api.ErrKey},
		{"a long key", commit(6, sets(longKey+"k", "")), api.ErrKey},
		{"a long value", commit(6, sets("a", longValue+"v")), api.ErrValue},
		{"gone with a value", commit(6, api.Write{Key: "a", Value: "v", Del: true}), api.ErrField},
		{"a key twice", commit(6, sets("a", ""), drops("a")), api.ErrField},
		{"keys that fall", commit(6, sets("b", ""), drops("a")), api.ErrField},
	} {
		good, next := commit(6, sets("a", "1")), commit(9, sets("a", "1"))
		refuseRedo(t, c.why, c.want, nil, 4, c.c)
		refuseRedo(t, c.why+" that counts for nothing", c.want, nil, 20, c.c)
		refuseRedo(t, c.why+" behind others", c.want, nil, 4, commit(5, sets("a", "1")), c.c)
		refuseRedo(t, c.why+" ahead of others", c.want, nil, 4, c.c, good, next)
		refuseRedo(t, c.why+" ahead of its order", c.want, nil, 4, next, c.c)
		refuseRedo(t, c.why+" behind what is not in order", api.ErrOrder, nil, 4, next, good, c.c)
		refuseRedo(t, c.why+", the pairs ahead", api.ErrOrder, stamped(pair("a", "", 1), pair("a", "", 1)), 4, c.c)
	}
	wantRedo(t, "64 writes", nil, 4, []api.Commit{commit(6, many[:64]...)}, 6, allAt(6, many[:64])...)
}

// allAt is what writes of a timestamp make.
func allAt(ts int64, l []api.Write) []api.Stamped {
	var list []api.Stamped
	for _, w := range l {
		list = append(list, pair(w.Key, w.Value, ts))
	}
	return list
}

// P18.3: the pairs as they stand, whatever they are.
func TestMap(t *testing.T) {
	for _, l := range [][]api.Stamped{
		nil,
		{pair("a", "1", 5)},
		{pair("a", "1", 5), pair("b", "", 0), pair("c", "3", maxTS)},
		{pair("b", "1", 5), pair("a", "2", 1), pair("b", "3", 9), pair("", longValue+"v", -1)},
	} {
		var wanted []api.Pair
		for _, p := range l {
			wanted = append(wanted, api.Pair{Key: p.Key, Value: p.Value})
		}
		if got := image.Map(l); !slices.Equal(got, wanted) {
			t.Errorf("Map(%v) = %v", l, got)
		}
	}
}
