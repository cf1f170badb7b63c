package keys_test

import (
	"testing"

	"cresset/api"
	"cresset/keys"
)

// P5.4: those that overlap or touch are one; the empty ones are none; the rest rises.
func TestUnion(t *testing.T) {
	for _, c := range []struct{ l, union []api.Range }{
		{nil, nil},
		{[]api.Range{span("b", "b"), span("c", "a")}, nil},
		{[]api.Range{span("a", "c")}, []api.Range{span("a", "c")}},
		{[]api.Range{span("a", "b"), span("b", "c")}, []api.Range{span("a", "c")}},
		{[]api.Range{span("b", "c"), span("a", "b")}, []api.Range{span("a", "c")}},
		{[]api.Range{span("a", "b"), span("b\x00", "c")}, []api.Range{span("a", "b"), span("b\x00", "c")}},
		{[]api.Range{span("a", "b\x00"), span("b\x00", "c")}, []api.Range{span("a", "c")}},
		{[]api.Range{span("d", "e"), span("a", "b")}, []api.Range{span("a", "b"), span("d", "e")}},
		{[]api.Range{span("a", "z"), span("b", "c"), span("d", "e")}, []api.Range{span("a", "z")}},
		{[]api.Range{span("a", "z"), span("b", "c"), span("y", "zz")}, []api.Range{span("a", "zz")}},
		{[]api.Range{span("a", "b"), span("a", "d"), span("a", "c")}, []api.Range{span("a", "d")}},
		{[]api.Range{span("a", "b"), span("a", "")}, []api.Range{span("a", "")}},
		{[]api.Range{span("a", ""), span("b", "c"), span("z", "")}, []api.Range{span("a", "")}},
		{[]api.Range{span("b", ""), span("a", "b")}, []api.Range{span("a", "")}},
		{[]api.Range{span("c", ""), span("a", "b")}, []api.Range{span("a", "b"), span("c", "")}},
		{[]api.Range{span("a", ""), span("", "a")}, []api.Range{span("", "")}},
		{[]api.Range{span("", ""), span("q", "r")}, []api.Range{span("", "")}},
		{[]api.Range{span("", "\x00"), span("\x01", "\x02")}, []api.Range{span("", "\x00"), span("\x01", "\x02")}},
		{[]api.Range{span("", "\x00"), span("\x00", "\x02")}, []api.Range{span("", "\x02")}},
		{[]api.Range{span("a", "b"), span("c", "c"), span("b", "b"), span("e", "d"), span("c", "d")}, []api.Range{span("a", "b"), span("c", "d")}},
		{[]api.Range{span("\x80", "\x90"), span("\x10", "\x7f")}, []api.Range{span("\x10", "\x7f"), span("\x80", "\x90")}},
		{[]api.Range{span("a", "b"), span("a", "b"), span("a", "b")}, []api.Range{span("a", "b")}},
	} {
		if got := keys.Union(c.l...); !same(got, c.union) {
			t.Errorf("Union(%q) = %q, want %q", c.l, got, c.union)
		}
	}
}

// P5.4: a list may have empty ranges, overlap and stand in any order.
func TestHits(t *testing.T) {
	l := []api.Range{span("m", "n"), span("c", "c"), span("z", "y"), span("a", "b"), span("aa", "bb"), span("x", "")}
	for _, key := range []string{"a", "aaa", "b", "ba", "m", "m\xff", "x", "z", "\xff"} {
		if !keys.Hits(l, key) {
			t.Errorf("%q is not hit", key)
		}
	}
	for _, key := range []string{"", "A", "bb", "c", "l", "n", "w\xff"} {
		if keys.Hits(l, key) {
			t.Errorf("%q is hit", key)
		}
	}
	for _, key := range []string{"", "a"} {
		if keys.Hits(nil, key) || keys.Hits([]api.Range{span("a", "a")}, key) || !keys.Hits([]api.Range{{}}, key) {
			t.Errorf("%q: hit by nothing, or not by all", key)
		}
	}
}

// P5.4: what is left of each one at both sides of r, as a Union.
func TestMinus(t *testing.T) {
	for _, c := range []struct {
		l    []api.Range
		r    api.Range
		left []api.Range
	}{
		{nil, span("a", "b"), nil},
		{nil, span("", ""), nil},
		{[]api.Range{span("a", "d")}, span("b", "c"), []api.Range{span("a", "b"), span("c", "d")}},
		{[]api.Range{span("a", "d")}, span("a", "c"), []api.Range{span("c", "d")}},
		{[]api.Range{span("a", "d")}, span("b", "d"), []api.Range{span("a", "b")}},
		{[]api.Range{span("a", "d")}, span("a", "d"), nil},
		{[]api.Range{span("a", "d")}, span("a\x00", "d"), []api.Range{span("a", "a\x00")}},
		{[]api.Range{span("b", "d")}, span("a", "e"), nil},
		{[]api.Range{span("b", "d")}, span("a", "c"), []api.Range{span("c", "d")}},
		{[]api.Range{span("b", "d")}, span("d", "e"), []api.Range{span("b", "d")}},
		{[]api.Range{span("b", "d")}, span("a", "b"), []api.Range{span("b", "d")}},
		{[]api.Range{span("b", "d")}, span("x", "y"), []api.Range{span("b", "d")}},
		{[]api.Range{span("b", "")}, span("c", "d"), []api.Range{span("b", "c"), span("d", "")}},
		{[]api.Range{span("b", "")}, span("c", ""), []api.Range{span("b", "c")}},
		{[]api.Range{span("b", "")}, span("", "c"), []api.Range{span("c", "")}},
		{[]api.Range{span("", "")}, span("", ""), nil},
		{[]api.Range{span("", ""), span("a", "b"), span("c", "")}, span("", ""), nil},
		{[]api.Range{span("", "")}, span("", "a"), []api.Range{span("a", "")}},
		{[]api.Range{span("", "")}, span("a", ""), []api.Range{span("", "a")}},
		{[]api.Range{span("", "")}, span("", "\x00"), []api.Range{span("\x00", "")}},
		{[]api.Range{span("", "")}, span("\x00", ""), []api.Range{span("", "\x00")}},
		{[]api.Range{span("a", "d")}, span("b", "b"), []api.Range{span("a", "d")}},
		{[]api.Range{span("a", "d")}, span("c", "b"), []api.Range{span("a", "d")}},
		{[]api.Range{span("", "")}, span("c", "b"), []api.Range{span("", "")}},
		{[]api.Range{span("c", "d"), span("a", "b"), span("b", "c"), span("x", "x")}, span("p", "o"), []api.Range{span("a", "d")}},
		{[]api.Range{span("f", "h"), span("a", "c"), span("b", "d"), span("d", "e")}, span("c", "g"), []api.Range{span("a", "c"), span("g", "h")}},
		{[]api.Range{span("x", "x"), span("z", "y")}, span("a", "b"), nil},
		{[]api.Range{span("x", "x"), span("z", "a")}, span("c", "d"), nil},
		{[]api.Range{span("\x70", "\x90")}, span("\x7f", "\x80"), []api.Range{span("\x70", "\x7f"), span("\x80", "\x90")}},
	} {
		if got := keys.Minus(c.l, c.r); !same(got, c.left) {
			t.Errorf("Minus(%q, %q) = %q, want %q", c.l, c.r, got, c.left)
		}
	}
}
