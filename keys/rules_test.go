package keys_test

import (
	"slices"
	"strconv"
	"strings"
	"testing"

	"cresset/api"
	"cresset/keys"
)

// The calls that the chapter lists keep their signatures.
var (
	_ func(string) string                      = keys.Next
	_ func(string) api.Range                   = keys.Prefix
	_ func(api.Range, string) bool             = keys.In
	_ func(api.Range) bool                     = keys.Empty
	_ func(...api.Range) api.Range             = keys.Meet
	_ func(api.Range, api.Range) bool          = keys.Overlap
	_ func(api.Range, api.Range) bool          = keys.Covers
	_ func(string, string) (string, bool)      = keys.Separator
	_ func(...api.Range) []api.Range           = keys.Union
	_ func([]api.Range, string) bool           = keys.Hits
	_ func([]api.Range, api.Range) []api.Range = keys.Minus
	_ func(string) api.Range                   = keys.One
)

// R1: texts that are no keys, and texts that are no letters, are texts.
func TestAnyTexts(t *testing.T) {
	odd := []string{"", "\x00", "\xff", "\xc3", "\xed\xa0\x80", "é", strings.Repeat("k", 65), strings.Repeat("\xff", 300), strings.Repeat("\x00", 5000)}
	for _, a := range odd {
		wantRange(t, "One", keys.One(a), span(a, a+"\x00"))
		if p := keys.Prefix(a); !has(p, a) || !has(p, a+"\xff") {
			t.Errorf("Prefix(%q) = %q", a, p)
		}
		for _, b := range odd {
			if s, ok := keys.Separator(a, b); ok != below(a, b) || ok && (!below(a, s) || below(b, s)) {
				t.Errorf("Separator(%q, %q) = %q, %v", a, b, s, ok)
			}
			checkList(t, []api.Range{span(a, b), span(b, a)}, span(b, a+"x"), odd)
		}
	}
}

// R3: a list that is handed in is left as it is, also behind its end.
func TestListsAreLeft(t *testing.T) {
	whole := []api.Range{span("x", "z"), span("q", "q"), span("a", "y"), span("c", "b"), span("b", ""), span("7", "8"), span("5", "5")}
	before := slices.Clone(whole)
	l := whole[:5]
	for range 2 {
		keys.Union(l...)
		keys.Meet(l...)
		keys.Minus(l, span("c", "d"))
		keys.Minus(l, span("d", "c"))
		keys.Hits(l, "p")
		if !slices.Equal(whole, before) {
			t.Fatalf("what was handed in is %q, was %q", whole, before)
		}
	}
}

// R3: what is answered is the caller's own.
func TestAnswersAreTheCallers(t *testing.T) {
	l := []api.Range{span("a", "b"), span("c", "d")}
	for _, ask := range []func() []api.Range{
		func() []api.Range { return keys.Union(l...) },
		func() []api.Range { return keys.Minus(l, span("x", "y")) },
		func() []api.Range { return keys.Minus(l, span("y", "x")) },
		func() []api.Range { return keys.Minus(l, span("", "")) },
	} {
		first := ask()
		second := slices.Clone(first)
		for i := range first {
			first[i] = span("gone", "")
		}
		_ = append(first, span("gone", ""))
		wantList(t, "the second answer", ask(), second...)
		wantList(t, "what was handed in", l, span("a", "b"), span("c", "d"))
	}
}

// R4: empty and nil lists are the same.
func TestEmptyAndNilLists(t *testing.T) {
	for _, l := range [][]api.Range{nil, {}} {
		wantRange(t, "Meet of none", keys.Meet(l...), api.Range{})
		wantList(t, "Union of none", keys.Union(l...))
		wantList(t, "Minus of none", keys.Minus(l, span("a", "b")))
		if keys.Hits(l, "") || keys.Hits(l, "a") {
			t.Error("none is hit")
		}
	}
}

// R6: the order in which ranges come does not matter to what is answered, nor how often one asks.
func TestAnyOrder(t *testing.T) {
	l := []api.Range{span("a", "c"), span("a", "b"), span("b", "d"), span("e", "f"), span("e", ""), span("a", "a")}
	union, left, met := keys.Union(l...), keys.Minus(l, span("b", "e")), keys.Meet(l...)
	for range l {
		l = append(l[1:], l[0])
		for range 2 {
			slices.Reverse(l)
			wantList(t, "Union", keys.Union(l...), union...)
			wantList(t, "Minus", keys.Minus(l, span("b", "e")), left...)
			wantRange(t, "Meet", keys.Meet(l...), met)
		}
	}
}

// The bound: lists of this length would not end in time if each range were held against each other one.
func TestLongLists(t *testing.T) {
	const many = 200000
	name := func(n int) string { return strconv.Itoa(1000000 + n) }
	apart := make([]api.Range, many)
	for i := range apart {
		at := i * 7919 % many // each place once, far from the last one
		apart[i] = span(name(2*at), name(2*at+1))
	}
	if got := keys.Union(apart...); len(got) != many || got[1] != span(name(2), name(3)) {
		t.Fatalf("Union has %d", len(got))
	}
	if got := keys.Minus(apart, span(name(0), name(2*many-2))); len(got) != 1 || got[0] != span(name(2*many-2), name(2*many-1)) {
		t.Fatalf("Minus has %d", len(got))
	}
	touching := make([]api.Range, many)
	for i := range touching {
		at := i * 7919 % many
		touching[i] = span(name(at), name(at+1))
	}
	if !same(keys.Union(touching...), []api.Range{span(name(0), name(many))}) {
		t.Error("Union of many that touch")
	}
	if !same(keys.Minus(touching, keys.One(name(5))), []api.Range{span(name(0), name(5)), span(keys.Next(name(5)), name(many))}) {
		t.Error("Minus of many that touch")
	}
	wantRange(t, "Meet", keys.Meet(apart...), span(name(2*many-2), name(1)))
	if keys.Hits(touching, name(many)) || !keys.Hits(touching, name(0)) {
		t.Error("Hits of a long list")
	}
	long := strings.Repeat("k", 1<<20)
	if s, ok := keys.Separator(long+"a", long+"bc"); !ok || s != long+"b" {
		t.Error("Separator of long texts")
	}
	if keys.Prefix(strings.Repeat("\xff", 1<<20)).High != "" || keys.Prefix("a"+strings.Repeat("\xff", 1<<20)).High != "b" {
		t.Error("Prefix of long texts")
	}
	alike := slices.Repeat([]api.Range{{}}, many)
	if !same(keys.Minus(alike, span(long, long+"x")), []api.Range{span("", long), span(long+"x", "")}) {
		t.Error("Minus of many alike")
	}
}
