package version_test

import (
	"math"
	"slices"
	"strings"
	"testing"

	"cresset/api"
	"cresset/version"
)

const maxTS = 1 << 40

var longest = strings.Repeat("v", 256)

func has(ts int64, value string) api.Version { return api.Version{TS: ts, Value: value} }

func gone(ts int64) api.Version { return api.Version{TS: ts, Del: true} }

func list(l ...api.Version) []api.Version { return l }

// falling is so many versions, the newest one of a timestamp.
func falling(newest int64, many int) []api.Version {
	l := make([]api.Version, many)
	for i := range l {
		l[i] = has(newest-int64(i), "v")
	}
	return l
}

func want(t *testing.T, what string, got, wanted api.Errno) {
	t.Helper()
	if got != wanted {
		t.Errorf("%s: error %d, want %d", what, got, wanted)
	}
}

func wantList(t *testing.T, what string, got []api.Version, wanted ...api.Version) {
	t.Helper()
	if !slices.Equal(got, wanted) {
		t.Errorf("%s: %v, want %v", what, got, wanted)
	}
}

func wantAt(t *testing.T, l []api.Version, ts int64, wanted api.Version) {
	t.Helper()
	if v, ok := version.At(l, ts); v != wanted || !ok {
		t.Errorf("At(%v, %d) = %v, %v, want %v", l, ts, v, ok, wanted)
	}
}

func wantValue(t *testing.T, l []api.Version, ts int64, wanted string, there bool) {
	t.Helper()
	if s, ok := version.Value(l, ts); s != wanted || ok != there {
		t.Errorf("Value(%v, %d) = %q, %v, want %q, %v", l, ts, s, ok, wanted, there)
	}
}

func wantPrune(t *testing.T, l []api.Version, mark int64, kept, rest []api.Version) {
	t.Helper()
	gotKept, gotRest := version.Prune(l, mark)
	if !slices.Equal(gotKept, kept) || !slices.Equal(gotRest, rest) {
		t.Errorf("Prune(%v, %d) = %v, %v, want %v, %v", l, mark, gotKept, gotRest, kept, rest)
	}
}

// The chapter's examples.
func TestExamples(t *testing.T) {
	l := list(has(9, "b"), gone(5), has(2, "a"))
	wantValue(t, l, 4, "a", true)
	wantValue(t, l, 5, "", false)
	wantValue(t, l, 9, "b", true)
	wantPrune(t, l, 6, list(has(9, "b")), list(gone(5), has(2, "a")))
	wantPrune(t, l, 4, l, nil)
}

// P15.1: what a version may be, at each edge.
func TestCheckOfOne(t *testing.T) {
	for _, c := range []struct {
		v      api.Version
		wanted api.Errno
	}{
		{has(1, "a"), api.OK},
		{has(maxTS, "a"), api.OK},
		{has(7, ""), api.OK},
		{has(7, "\x00\xff"), api.OK},
		{has(7, longest), api.OK},
		{gone(1), api.OK},
		{gone(maxTS), api.OK},
		{has(0, "a"), api.ErrVersion},
		{has(-1, "a"), api.ErrVersion},
		{has(math.MinInt64, "a"), api.ErrVersion},
		{has(maxTS+1, "a"), api.ErrVersion},
		{has(math.MaxInt64, "a"), api.ErrVersion},
		{gone(0), api.ErrVersion},
		{gone(maxTS + 1), api.ErrVersion},
		{has(7, longest+"v"), api.ErrVersion},
		{api.Version{TS: 7, Value: "a", Del: true}, api.ErrVersion},
		{api.Version{TS: 7, Value: longest + "v", Del: true}, api.ErrVersion},
		{api.Version{}, api.ErrVersion},
	} {
		want(t, "Check", version.Check(list(c.v)), c.wanted)
		got, e := version.Put(nil, c.v)
		want(t, "Put", e, c.wanted)
		if e == api.OK {
			wantList(t, "Put", got, c.v)
		} else if got != nil {
			t.Errorf("Put beside an error: %v", got)
		}
		if c.v.TS < maxTS {
			want(t, "Check behind another one", version.Check(list(has(maxTS, "a"), c.v)), c.wanted)
		}
		if c.v.TS > 1 {
			want(t, "Check ahead of another one", version.Check(list(c.v, gone(1))), c.wanted)
		}
	}
}

// P15.1: each timestamp is below the one ahead.
func TestCheckOfMany(t *testing.T) {
	want(t, "none", version.Check(nil), api.OK)
	want(t, "falling", version.Check(list(has(9, "b"), gone(5), has(2, "a"))), api.OK)
	want(t, "by one", version.Check(list(has(3, ""), gone(2), gone(1))), api.OK)
	want(t, "alike", version.Check(list(has(9, "b"), gone(9))), api.ErrVersion)
	want(t, "rising", version.Check(list(has(2, "a"), has(9, "b"))), api.ErrVersion)
	want(t, "rising at the end", version.Check(list(has(9, "b"), has(2, "a"), has(3, "a"))), api.ErrVersion)
	want(t, "below the first, not below the one ahead", version.Check(list(has(9, "b"), has(2, "a"), has(2, "a"))), api.ErrVersion)
}

// P15.1: MaxVersions, and not one more; ErrLong comes first.
func TestCheckAtTheLimit(t *testing.T) {
	want(t, "1024", version.Check(falling(1024, 1024)), api.OK)
	want(t, "1025", version.Check(falling(1025, 1025)), api.ErrLong)
	want(t, "100000", version.Check(falling(maxTS, 100000)), api.ErrLong)
	want(t, "1024 down to 0", version.Check(falling(1023, 1024)), api.ErrVersion)
	want(t, "1025 down to 0", version.Check(falling(1024, 1025)), api.ErrLong)
	want(t, "1025 alike", version.Check(make([]api.Version, 1025)), api.ErrLong)
	want(t, "1024 alike", version.Check(make([]api.Version, 1024)), api.ErrVersion)
	for _, at := range []int{0, 1, 500, 1022, 1023} {
		l := falling(2000, 1024)
		l[at].Value = longest + "v"
		want(t, "a value that is too long", version.Check(l), api.ErrVersion)
		l[at].Value, l[at].Del = "v", true
		want(t, "one that is gone, and has a value", version.Check(l), api.ErrVersion)
		l[at].Value = ""
		want(t, "one that is gone", version.Check(l), api.OK)
	}
}

// P15.1: what a timestamp sees.
func TestAt(t *testing.T) {
	l := list(has(9, "b"), gone(5), has(2, "a"))
	for ts, wanted := range []api.Version{2: l[2], 3: l[2], 4: l[2], 5: l[1], 6: l[1], 8: l[1], 9: l[0], 10: l[0]} {
		if wanted != (api.Version{}) {
			wantAt(t, l, int64(ts), wanted)
			wantValue(t, l, int64(ts), wanted.Value, !wanted.Del)
		}
	}
	wantAt(t, l, math.MaxInt64, l[0])
	for _, ts := range []int64{1, 0, -1, math.MinInt64} {
		if v, ok := version.At(l, ts); v != (api.Version{}) || ok {
			t.Errorf("At(%d) = %v, %v", ts, v, ok)
		}
		wantValue(t, l, ts, "", false)
	}
	if v, ok := version.At(nil, math.MaxInt64); v != (api.Version{}) || ok {
		t.Errorf("At of none = %v, %v", v, ok)
	}
	wantValue(t, nil, math.MaxInt64, "", false)
	wantValue(t, list(has(3, "")), 3, "", true)
}

// P15.1: lists that Check refuses are taken as they stand.
func TestAtOfAnyList(t *testing.T) {
	rising := list(has(2, "a"), has(5, "b"), has(9, "c"))
	wantAt(t, rising, 9, rising[0])
	wantAt(t, rising, 2, rising[0])
	alike := list(has(3, "x"), has(3, "y"), gone(3))
	wantAt(t, alike, 3, alike[0])
	mixed := list(has(9, "c"), has(2, "a"), has(7, "b"))
	wantAt(t, mixed, 8, mixed[1])
	odd := list(has(math.MaxInt64, longest+"v"), api.Version{TS: 0, Value: "x", Del: true}, has(math.MinInt64, "low"))
	wantAt(t, odd, math.MaxInt64, odd[0])
	wantValue(t, odd, math.MaxInt64, longest+"v", true)
	wantAt(t, odd, 0, odd[1])
	wantValue(t, odd, 0, "", false)
	wantAt(t, odd, -1, odd[2])
	wantAt(t, odd, math.MinInt64, odd[2])
}

// P15.2: a version ahead of the others.
func TestPut(t *testing.T) {
	var l []api.Version
	for _, v := range list(has(2, "a"), gone(5), has(6, ""), has(maxTS, longest)) {
		next, e := version.Put(l, v)
		want(t, "Put", e, api.OK)
		wantList(t, "Put", next, append(list(v), l...)...)
		l = next
	}
	want(t, "Check of what was put", version.Check(l), api.OK)
	for _, v := range list(has(maxTS, "a"), has(maxTS-1, "a"), has(1, "a"), gone(maxTS)) {
		if got, e := version.Put(l, v); got != nil || e != api.ErrOrder {
			t.Errorf("Put of %v = %v, %d", v, got, e)
		}
	}
}

// P15.2: where several errors apply: ErrVersion, ErrOrder, ErrLong.
func TestPutAtTheLimit(t *testing.T) {
	full, one := falling(2000, 1024), falling(2000, 1023)
	if l, e := version.Put(one, has(2001, "w")); e != api.OK || len(l) != 1024 || l[0] != has(2001, "w") || !slices.Equal(l[1:], one) {
		t.Errorf("the last one that there is room for: %d, error %d", len(l), e)
	}
	for _, l := range [][]api.Version{full, falling(2000, 1025), falling(2000, 1999)} {
		for _, c := range []struct {
			v      api.Version
			wanted api.Errno
		}{
			{has(2001, "w"), api.ErrLong},
			{gone(maxTS), api.ErrLong},
			{has(2000, "w"), api.ErrOrder},
			{has(1, "w"), api.ErrOrder},
			{has(0, "w"), api.ErrVersion},
			{has(maxTS+1, "w"), api.ErrVersion},
			{has(2001, longest+"v"), api.ErrVersion},
			{api.Version{TS: 2000, Value: "w", Del: true}, api.ErrVersion},
		} {
			if got, e := version.Put(l, c.v); got != nil || e != c.wanted {
				t.Errorf("Put of %d at %d: %d, error %d, want %d", c.v.TS, len(l), len(got), e, c.wanted)
			}
		}
	}
}

// P15.2: only the first one's timestamp counts, whatever stands behind it.
func TestPutToAnyList(t *testing.T) {
	odd := list(has(-5, longest+"v"), has(900, "x"), api.Version{Value: "x", Del: true})
	got, e := version.Put(odd, has(1, "a"))
	want(t, "Put", e, api.OK)
	wantList(t, "Put", got, append(list(has(1, "a")), odd...)...)
	if got, e := version.Put(list(has(math.MaxInt64, "")), has(maxTS, "a")); got != nil || e != api.ErrOrder {
		t.Errorf("Put below what may not be: %v, %d", got, e)
	}
}

// P15.2: what is kept at each mark.
func TestPrune(t *testing.T) {
	b, del, a := has(9, "b"), gone(5), has(2, "a")
	l := list(b, del, a)
	for _, c := range []struct {
		mark       int64
		kept, rest []api.Version
	}{
		{math.MinInt64, l, nil},
		{0, l, nil},
		{1, l, nil},
		{2, l, nil},
		{4, l, nil},
		{5, list(b), list(del, a)},
		{8, list(b), list(del, a)},
		{9, list(b), list(del, a)},
		{math.MaxInt64, list(b), list(del, a)},
	} {
		wantPrune(t, l, c.mark, c.kept, c.rest)
	}
	wantPrune(t, list(gone(3)), 3, nil, list(gone(3)))
	wantPrune(t, list(gone(3)), 2, list(gone(3)), nil)
	wantPrune(t, list(gone(3), a), 9, nil, list(gone(3), a))
	wantPrune(t, list(has(3, ""), a), 9, list(has(3, "")), list(a))
	wantPrune(t, nil, 9, nil, nil)
}

// P15.2: of any list: those above the mark wherever they stand, and of the others the first one alone.
func TestPruneOfAnyList(t *testing.T) {
	wantPrune(t, list(has(2, "a"), has(9, "b"), has(3, "c"), has(8, "d")), 5,
		list(has(2, "a"), has(9, "b"), has(8, "d")), list(has(3, "c")))
	wantPrune(t, list(gone(2), has(9, "b"), has(3, "c"), gone(8)), 5,
		list(has(9, "b"), gone(8)), list(gone(2), has(3, "c")))
	wantPrune(t, list(has(4, "x"), has(4, "x"), has(4, "x")), 4,
		list(has(4, "x")), list(has(4, "x"), has(4, "x")))
	odd := api.Version{TS: -3, Value: "x", Del: true}
	wantPrune(t, list(odd, has(-3, "y")), -3, nil, list(odd, has(-3, "y")))
	wantPrune(t, list(odd, has(-3, "y")), -4, list(odd, has(-3, "y")), nil)
}

// P15.3: lists are the same one by one, whatever stands in them.
func TestSame(t *testing.T) {
	whole := func() []api.Version { return list(has(9, "b"), gone(5), has(-2, "a")) }
	if !version.Same(whole(), whole()) {
		t.Error("alike, and not the same")
	}
	for why, change := range map[string]func(l []api.Version) []api.Version{
		"a timestamp":   func(l []api.Version) []api.Version { l[0].TS = 8; return l },
		"the last one":  func(l []api.Version) []api.Version { l[2].TS = 1; return l },
		"a value":       func(l []api.Version) []api.Version { l[0].Value = "c"; return l },
		"no value":      func(l []api.Version) []api.Version { l[2].Value = ""; return l },
		"gone":          func(l []api.Version) []api.Version { l[0].Del = true; return l },
		"not gone":      func(l []api.Version) []api.Version { l[1].Del = false; return l },
		"fewer":         func(l []api.Version) []api.Version { return l[:2] },
		"fewer ahead":   func(l []api.Version) []api.Version { return l[1:] },
		"none":          func(l []api.Version) []api.Version { return nil },
		"more":          func(l []api.Version) []api.Version { return append(l, api.Version{}) },
		"another order": func(l []api.Version) []api.Version { slices.Reverse(l); return l },
	} {
		l := change(whole())
		if version.Same(l, whole()) || version.Same(whole(), l) || !version.Same(l, l) {
			t.Errorf("%s: not told apart", why)
		}
	}
	none, empty := []api.Version(nil), []api.Version{}
	if !version.Same(none, empty) || !version.Same(empty, none) || !version.Same(none, none) || !version.Same(empty, empty) {
		t.Error("empty and nil lists are not the same")
	}
}
