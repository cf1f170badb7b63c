package image_test

import (
	"math"
	"slices"
	"strconv"
	"strings"
	"testing"

	"cresset/api"
	"cresset/image"
)

const (
	maxTS = 1 << 40
	most  = 65536 // pairs of an image
)

var (
	longKey   = strings.Repeat("k", 64)
	longValue = strings.Repeat("v", 256)
)

func has(ts int64, value string) api.Version { return api.Version{TS: ts, Value: value} }

func gone(ts int64) api.Version { return api.Version{TS: ts, Del: true} }

func pair(key, value string, ts int64) api.Stamped {
	return api.Stamped{Key: key, Value: value, TS: ts}
}

func want(t *testing.T, what string, got, wanted api.Errno) {
	t.Helper()
	if got != wanted {
		t.Errorf("%s: error %d, want %d", what, got, wanted)
	}
}

// newImage is an image of a snapshot that may be.
func newImage(t *testing.T, ts int64) *image.Image {
	t.Helper()
	m, e := image.New(ts)
	if m == nil || e != api.OK {
		t.Fatalf("New(%d) = %v, %d", ts, m, e)
	}
	return m
}

// full is an image of the snapshot 5 with so many pairs, and their keys.
func full(t *testing.T, many int) *image.Image {
	t.Helper()
	m := newImage(t, 5)
	for i := range many {
		if e := m.Add(name(i), has(5, "v")); e != api.OK {
			t.Fatalf("Add of the pair %d: %d", i, e)
		}
	}
	return m
}

// name is the n-th of keys that rise.
func name(n int) string { return strconv.Itoa(1000000 + n) }

func wantPairs(t *testing.T, what string, got []api.Stamped, wanted ...api.Stamped) {
	t.Helper()
	if !slices.Equal(got, wanted) {
		t.Errorf("%s: %v, want %v", what, got, wanted)
	}
}

// wantImage holds all that an image tells of itself.
func wantImage(t *testing.T, m *image.Image, ts int64, from string, wanted ...api.Stamped) {
	t.Helper()
	if m.TS() != ts || m.From() != from || m.Len() != len(wanted) {
		t.Errorf("TS %d, From %q, Len %d, want %d, %q, %d", m.TS(), m.From(), m.Len(), ts, from, len(wanted))
	}
	wantPairs(t, "Pairs", slices.Collect(m.Pairs()), wanted...)
}

// The chapter's first example.
func TestExampleOfAdd(t *testing.T) {
	m := newImage(t, 6)
	want(t, "a", m.Add("a", has(7, "y"), has(5, "x")), api.OK)
	wantImage(t, m, 6, "a\x00", pair("a", "x", 5))
	want(t, "a again", m.Add("a", has(7, "y"), has(5, "x")), api.ErrOrder)
	want(t, "a without versions", m.Add("a"), api.ErrOrder)
	want(t, "b", m.Add("b", gone(6), has(2, "z")), api.OK)
	wantImage(t, m, 6, "b\x00", pair("a", "x", 5))
}

// P18.1: a snapshot is from 0 to MaxTS.
func TestNew(t *testing.T) {
	for _, ts := range []int64{0, 1, 2, 1 << 39, maxTS - 1, maxTS} {
		wantImage(t, newImage(t, ts), ts, "")
	}
	for _, ts := range []int64{-1, -2, maxTS + 1, math.MinInt64, math.MaxInt64} {
		if m, e := image.New(ts); m != nil || e != api.ErrArg {
			t.Errorf("New(%d) = %v, %d", ts, m, e)
		}
	}
}

// P18.1: a key may be what record.Key says; it is not above another one if it is the same, or a beginning of it.
func TestAddKeys(t *testing.T) {
	m := newImage(t, 9)
	for _, c := range []struct {
		key  string
		want api.Errno
	}{
		{"", api.ErrKey},
		{longKey + "k", api.ErrKey},
		{"\x00", api.OK},
		{"\x00", api.ErrOrder},
		{"", api.ErrKey},
		{"\x00\x00", api.OK},
		{"\x00", api.ErrOrder},
		{"a", api.OK},
		{"Z", api.ErrOrder},
		{"ab", api.OK},
		{"a", api.ErrOrder},
		{"aa", api.ErrOrder},
		{"ab\x00", api.OK},
		{"b", api.OK},
		{"aaaa", api.ErrOrder},
		{strings.Repeat("a", 65), api.ErrKey},
		{longKey, api.OK},
		{longKey[:63], api.ErrOrder},
		{longKey[:63] + "l", api.OK},
		{"\x7f", api.OK},
		{"\x80", api.OK},
		{"\x7f\xff", api.ErrOrder},
		{"\xff", api.OK},
		{"\xfe\xff", api.ErrOrder},
		{strings.Repeat("\xff", 64), api.OK},
		{strings.Repeat("\xff", 64), api.ErrOrder},
		{strings.Repeat("\xff", 65), api.ErrKey},
	} {
		from, n := m.From(), m.Len()
		e := m.Add(c.key, has(1, "v"))
		want(t, strconv.Quote(c.key), e, c.want)
		if e == api.OK {
			from, n = c.key+"\x00", n+1
		}
		if m.From() != from || m.Len() != n {
			t.Errorf("behind Add(%q): From %q, Len %d, want %q, %d", c.key, m.From(), m.Len(), from, n)
		}
	}
}

// P18.1: version.At of the versions at the snapshot, unless it is Del.
func TestAddVersions(t *testing.T) {
	for _, c := range []struct {
		ts     int64
		l      []api.Version
		wanted []api.Stamped
	}{
		{6, nil, nil},
		{6, []api.Version{has(6, "x")}, []api.Stamped{pair("a", "x", 6)}},
		{6, []api.Version{has(7, "x")}, nil},
		{6, []api.Version{has(5, "x")}, []api.Stamped{pair("a", "x", 5)}},
		{6, []api.Version{has(5, "")}, []api.Stamped{pair("a", "", 5)}},
		{6, []api.Version{gone(6)}, nil},
		{6, []api.Version{gone(6), has(5, "x")}, nil},
		{6, []api.Version{gone(7), has(5, "x")}, []api.Stamped{pair("a", "x", 5)}},
		{6, []api.Version{has(8, "z"), gone(7), has(6, "y"), has(5, "x")}, []api.Stamped{pair("a", "y", 6)}},
		{6, []api.Version{has(8, "z"), has(3, "y"), gone(2), has(1, "x")}, []api.Stamped{pair("a", "y", 3)}},
		{6, []api.Version{has(8, "z"), gone(3), has(1, "x")}, nil},
		{0, []api.Version{has(1, "x")}, nil},
		{1, []api.Version{has(1, "x")}, []api.Stamped{pair("a", "x", 1)}},
		{maxTS, []api.Version{has(maxTS, longValue), has(1, "x")}, []api.Stamped{pair("a", longValue, maxTS)}},
		{maxTS - 1, []api.Version{has(maxTS, longValue), has(1, "x")}, []api.Stamped{pair("a", "x", 1)}},
	} {
		m := newImage(t, c.ts)
		want(t, "Add", m.Add("a", c.l...), api.OK)
		wantImage(t, m, c.ts, "a\x00", c.wanted...)
	}
}

// manyVersions is so many versions, the newest one first, of the timestamps from that one down.
func manyVersions(newest int64, many int) []api.Version {
	var l []api.Version
	for i := range many {
		l = append(l, has(newest-int64(i), "v"))
	}
	return l
}

// P18.1: version.Check's error, also of versions that the snapshot does not see.
func TestAddRefusesVersions(t *testing.T) {
	for _, c := range []struct {
		why  string
		l    []api.Version
		want api.Errno
	}{
		{"the same timestamp twice", []api.Version{has(5, "x"), has(5, "y")}, api.ErrVersion},
		{"not falling", []api.Version{has(4, "x"), has(5, "y")}, api.ErrVersion},
		{"a timestamp 0", []api.Version{has(5, "x"), has(0, "y")}, api.ErrVersion},
		{"one above MaxTS", []api.Version{has(maxTS+1, "y"), has(5, "x")}, api.ErrVersion},
		{"a long value behind", []api.Version{has(5, "x"), has(4, longValue+"v")}, api.ErrVersion},
		{"a long value ahead", []api.Version{has(9, longValue+"v"), has(4, "x")}, api.ErrVersion},
		{"gone with a value", []api.Version{has(5, "x"), {TS: 4, Value: "x", Del: true}}, api.ErrVersion},
		{"1,025 versions", manyVersions(2000, 1025), api.ErrLong},
		{"1,025 versions that may not be", append(manyVersions(2000, 1024), has(9999, "v")), api.ErrLong},
	} {
		m := newImage(t, 6)
		want(t, c.why, m.Add("a", c.l...), c.want)
		wantImage(t, m, 6, "")
		want(t, "a", m.Add("a", has(1, "x")), api.OK)
		want(t, c.why+", behind another one", m.Add("b", c.l...), c.want)
		wantImage(t, m, 6, "a\x00", pair("a", "x", 1))
		want(t, "the key is not taken", m.Add("a\x00", has(2, "x")), api.OK)
		wantImage(t, m, 6, "a\x00\x00", pair("a", "x", 1), pair("a\x00", "x", 2))
	}
	m := newImage(t, 1500)
	want(t, "1,024 versions", m.Add("a", manyVersions(2000, 1024)...), api.OK)
	wantImage(t, m, 1500, "a\x00", pair("a", "v", 1500))
}

// P18.1: the key's error, the order's, the versions' and that of how many, in this order.
func TestAddFirstError(t *testing.T) {
	m := newImage(t, 6)
	bad, long := []api.Version{has(0, "x")}, manyVersions(2000, 1025)
	want(t, "b", m.Add("b"), api.OK)
	for _, l := range [][]api.Version{nil, bad, long} {
		want(t, "the key ahead of all", m.Add("", l...), api.ErrKey)
		want(t, "a long key ahead of all", m.Add(strings.Repeat("a", 65), l...), api.ErrKey)
		want(t, "the order ahead of the versions", m.Add("a", l...), api.ErrOrder)
		want(t, "the same ahead of the versions", m.Add("b", l...), api.ErrOrder)
	}
	want(t, "versions", m.Add("c", bad...), api.ErrVersion)
	want(t, "how many versions", m.Add("c", long...), api.ErrLong)
	wantImage(t, m, 6, "b\x00")
}

// P18.1: 4,096 times 16 pairs are the most; a key without a pair is taken all the same.
func TestAddUpToTheMost(t *testing.T) {
	m := full(t, most-1)
	want(t, "a gone one", m.Add("2", gone(3)), api.OK)
	want(t, "the last one", m.Add("3", has(3, "w")), api.OK)
	if m.Len() != most || m.From() != "3\x00" {
		t.Fatalf("Len %d, From %q", m.Len(), m.From())
	}
	for range 2 {
		want(t, "one more", m.Add("4", has(5, "v")), api.ErrLong)
		want(t, "one more, with a newer one ahead", m.Add("4", has(6, "v"), has(5, "v")), api.ErrLong)
		want(t, "the order ahead", m.Add("3", has(5, "v")), api.ErrOrder)
		want(t, "the versions ahead", m.Add("4", has(5, "v"), has(5, "v")), api.ErrVersion)
		want(t, "the key ahead", m.Add("", has(5, "v")), api.ErrKey)
		if m.Len() != most || m.From() != "3\x00" {
			t.Fatalf("Len %d, From %q", m.Len(), m.From())
		}
	}
	want(t, "one without versions", m.Add("4"), api.OK)
	want(t, "one that is gone", m.Add("5", gone(5), has(2, "v")), api.OK)
	want(t, "one that is not there yet", m.Add("6", has(6, "v")), api.OK)
	want(t, "one more", m.Add("7", has(1, "v")), api.ErrLong)
	if m.Len() != most || m.From() != "6\x00" {
		t.Fatalf("Len %d, From %q", m.Len(), m.From())
	}
	list := slices.Collect(m.Pairs())
	if len(list) != most || list[0] != pair(name(0), "v", 5) || list[most-1] != pair("3", "w", 3) {
		t.Errorf("%d pairs, from %v to %v", len(list), list[0], list[len(list)-1])
	}
}
