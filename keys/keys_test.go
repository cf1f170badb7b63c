package keys_test

import (
	"slices"
	"strings"
	"testing"

	"cresset/api"
	"cresset/keys"
)

func span(low, high string) api.Range { return api.Range{Low: low, High: high} }

func wantRange(t *testing.T, what string, got, wanted api.Range) {
	t.Helper()
	if got != wanted {
		t.Errorf("%s is %q, want %q", what, got, wanted)
	}
}

func wantList(t *testing.T, what string, got []api.Range, wanted ...api.Range) {
	t.Helper()
	if !slices.Equal(got, wanted) {
		t.Errorf("%s is %q, want %q", what, got, wanted)
	}
}

func wantSeparator(t *testing.T, a, b, wanted string, ok bool) {
	t.Helper()
	if got, is := keys.Separator(a, b); got != wanted || is != ok {
		t.Errorf("Separator(%q, %q) = %q, %v, want %q, %v", a, b, got, is, wanted, ok)
	}
}

// The chapter's examples.
func TestExamples(t *testing.T) {
	wantRange(t, "Prefix of a", keys.Prefix("a"), span("a", "b"))
	wantRange(t, "Prefix of a 255", keys.Prefix("a\xff"), span("a\xff", "b"))
	wantSeparator(t, "abc", "abz", "abz", true)
	wantSeparator(t, "abc", "b", "b", true)
	wantList(t, "Union", keys.Union(span("a", "c"), span("b", "d"), span("f", "f")), span("a", "d"))
}

// P5.1: In has Low, and has not High; without an end all from Low on.
func TestIn(t *testing.T) {
	for _, c := range []struct {
		r   api.Range
		key string
		is  bool
	}{
		{span("b", "d"), "b", true},
		{span("b", "d"), "a\xff\xff", false},
		{span("b", "d"), "b\x00", true},
		{span("b", "d"), "c\xff\xff", true},
		{span("b", "d"), "d", false},
		{span("b", "d"), "d\x00", false},
		{span("b", "d"), "", false},
		{span("bb", "d"), "b", false},
		{span("b", "dd"), "d", true},
		{span("b", ""), "b", true},
		{span("b", ""), "\xff\xff\xff", true},
		{span("b", ""), "a", false},
		{span("b", ""), "", false},
		{span("", ""), "", true},
		{span("", ""), "\xff", true},
		{span("", "a"), "", true},
		{span("", "a"), "a", false},
		{span("", "\x00"), "", true},
		{span("", "\x00"), "\x00", false},
		{span("c", "c"), "c", false},
		{span("c", "b"), "b", false},
		{span("c", "b"), "c", false},
		{span("c", "b"), "bb", false},
		{span("\x7f", "\x80"), "\x7f\xff", true},
		{span("\x7f", "\x81"), "\x80", true},
		{span("\x80", ""), "\x7f", false},
		{span("Z", "a"), "_", true},
		{span("a", ""), "Z", false},
	} {
		if got := keys.In(c.r, c.key); got != c.is {
			t.Errorf("In(%q, %q) = %v", c.r, c.key, got)
		}
	}
}

// P5.1: Empty is a range with a High that is not above its Low.
func TestEmpty(t *testing.T) {
	for _, r := range []api.Range{span("a", "a"), span("b", "a"), span("a\x00", "a"), span("\xff", "\x00"), span("ab", "aa"), span("\x80", "\x7f")} {
		if !keys.Empty(r) {
			t.Errorf("%q is not Empty", r)
		}
	}
	for _, r := range []api.Range{span("", ""), span("a", ""), span("\xff", ""), span("", "\x00"), span("", "a"), span("a", "a\x00"), span("a", "b"), span("\x7f", "\x80")} {
		if keys.Empty(r) {
			t.Errorf("%q is Empty", r)
		}
	}
}

// P5.1: Next puts a byte 0 behind, of the empty text and of a long one too; One has just the key.
func TestNextAndOne(t *testing.T) {
	for _, key := range []string{"", "a", "\x00", "\xff", "a\x00", "é", strings.Repeat("k", 64), strings.Repeat("\xff", 1000)} {
		if got := keys.Next(key); got != key+string([]byte{0}) {
			t.Errorf("Next(%q) = %q", key, got)
		}
		one := keys.One(key)
		wantRange(t, "One", one, span(key, key+"\x00"))
		if keys.Empty(one) || !keys.In(one, key) || keys.In(one, key+"\x00") || keys.In(one, key+"a") {
			t.Errorf("One(%q) = %q has not just the key", key, one)
		}
	}
}

// P5.1: what is above all texts with a beginning; bytes above 127 are bytes as others are.
func TestPrefix(t *testing.T) {
	for _, c := range []struct{ s, high string }{
		{"", ""},
		{"\x00", "\x01"},
		{"a\x00", "a\x01"},
		{"abc", "abd"},
		{"\x7f", "\x80"},
		{"\x80", "\x81"},
		{"\xfe", "\xff"},
		{"a\xfe", "a\xff"},
		{"\xff", ""},
		{"\xff\xff\xff", ""},
		{"a\xff\xff", "b"},
		{"a\xffb", "a\xffc"},
		{"a\xffb\xff", "a\xffc"},
		{"\xff\xffa\xff", "\xff\xffb"},
		{"\xff\x00", "\xff\x01"},
		{"\xfe\xff", "\xff"},
		{"é", "\xc3\xaa"},
		{"a\xef\xbf\xbd", "a\xef\xbf\xbe"},
		{strings.Repeat("k", 99), strings.Repeat("k", 98) + "l"},
		{"k" + strings.Repeat("\xff", 500), "l"},
	} {
		wantRange(t, "Prefix", keys.Prefix(c.s), span(c.s, c.high))
	}
}

// P5.2: the greatest Low, the least High of those that have one; what is met may be empty.
func TestMeet(t *testing.T) {
	for _, c := range []struct {
		l   []api.Range
		met api.Range
	}{
		{nil, span("", "")},
		{[]api.Range{span("", "")}, span("", "")},
		{[]api.Range{span("a", "c")}, span("a", "c")},
		{[]api.Range{span("c", "a")}, span("c", "a")},
		{[]api.Range{span("a", "c"), span("b", "d")}, span("b", "c")},
		{[]api.Range{span("b", "d"), span("a", "c")}, span("b", "c")},
		{[]api.Range{span("a", ""), span("b", "")}, span("b", "")},
		{[]api.Range{span("a", ""), span("", "c")}, span("a", "c")},
		{[]api.Range{span("", "c"), span("a", "")}, span("a", "c")},
		{[]api.Range{span("", "c"), span("", "b"), span("", "")}, span("", "b")},
		{[]api.Range{span("a", "b"), span("c", "d")}, span("c", "b")},
		{[]api.Range{span("a", "b"), span("b", "c")}, span("b", "b")},
		{[]api.Range{span("z", "a"), span("b", "y")}, span("z", "a")},
		{[]api.Range{span("b", "y"), span("", ""), span("a", "z"), span("c", ""), span("", "x")}, span("c", "x")},
		{[]api.Range{span("\x7f", "\xff"), span("\x80", "\xfe")}, span("\x80", "\xfe")},
	} {
		if got := keys.Meet(c.l...); got != c.met {
			t.Errorf("Meet(%q) = %q, want %q", c.l, got, c.met)
		}
	}
}

// P5.2: a High is not in its range, so that ranges which touch do not overlap; nor does an empty one.
func TestOverlap(t *testing.T) {
	for _, c := range []struct {
		a, b api.Range
		is   bool
	}{
		{span("a", "c"), span("b", "d"), true},
		{span("a", "b"), span("b", "c"), false},
		{span("a", "b\x00"), span("b", "c"), true},
		{span("a", "b"), span("c", "d"), false},
		{span("", "b"), span("b", ""), false},
		{span("", ""), span("", ""), true},
		{span("", ""), span("\xff\xff", ""), true},
		{span("", "\x00"), span("", ""), true},
		{span("", "\x00"), span("\x00", ""), false},
		{span("", ""), span("a", "a"), false},
		{span("a", "z"), span("m", "m"), false},
		{span("a", "z"), span("m", "c"), false},
		{span("m", "m"), span("m", "m"), false},
		{span("a", "z"), span("m", "n"), true},
		{span("m", "n"), span("m", "n"), true},
	} {
		if got := keys.Overlap(c.a, c.b); got != c.is {
			t.Errorf("Overlap(%q, %q) = %v", c.a, c.b, got)
		}
		if got := keys.Overlap(c.b, c.a); got != c.is {
			t.Errorf("Overlap(%q, %q) = %v", c.b, c.a, got)
		}
	}
}

// P5.2: an empty range is covered by each one, also by an empty one; nothing else is covered by that.
func TestCovers(t *testing.T) {
	for _, c := range []struct {
		a, b api.Range
		is   bool
	}{
		{span("a", "d"), span("b", "c"), true},
		{span("a", "d"), span("a", "d"), true},
		{span("a", "d"), span("a", "d\x00"), false},
		{span("a\x00", "d"), span("a", "d"), false},
		{span("b", "c"), span("a", "d"), false},
		{span("a", "c"), span("b", "d"), false},
		{span("b", "d"), span("a", "c"), false},
		{span("a", "d"), span("a", ""), false},
		{span("a", ""), span("b", ""), true},
		{span("b", ""), span("a", ""), false},
		{span("a", ""), span("b", "c"), true},
		{span("", ""), span("", ""), true},
		{span("", "a"), span("", ""), false},
		{span("\x00", ""), span("", ""), false},
		{span("\x00", ""), span("", "\x00"), false},
		{span("a", "b"), span("x", "x"), true},
		{span("a", "b"), span("x", "c"), true},
		{span("x", "x"), span("y", "c"), true},
		{span("x", "x"), span("x", "x"), true},
		{span("x", "c"), span("d", "e"), false},
		{span("x", "x"), span("x", "x\x00"), false},
		{span("x", "x"), span("", ""), false},
		{span("a", "b"), span("c", "d"), false},
	} {
		if got := keys.Covers(c.a, c.b); got != c.is {
			t.Errorf("Covers(%q, %q) = %v", c.a, c.b, got)
		}
	}
}

// P5.3: one byte of b behind what both begin with; nothing where a is not below b.
func TestSeparator(t *testing.T) {
	wantSeparator(t, "", "b", "b", true)
	wantSeparator(t, "", "bcd", "b", true)
	wantSeparator(t, "", "\x00", "\x00", true)
	wantSeparator(t, "a", "ab", "ab", true)
	wantSeparator(t, "a", "a\x00\x00", "a\x00", true)
	wantSeparator(t, "abc", "abcdef", "abcd", true)
	wantSeparator(t, "abc", "abz", "abz", true)
	wantSeparator(t, "abcx", "abzyy", "abz", true)
	wantSeparator(t, "abzz", "acaa", "ac", true)
	wantSeparator(t, "a\xff\xff", "b", "b", true)
	wantSeparator(t, "a\x7f", "a\x80\x80", "a\x80", true)
	wantSeparator(t, "é", "ê", "ê", true)
	wantSeparator(t, strings.Repeat("k", 500), strings.Repeat("k", 499)+"lmn", strings.Repeat("k", 499)+"l", true)
	wantSeparator(t, "", "", "", false)
	wantSeparator(t, "a", "a", "", false)
	wantSeparator(t, "a", "", "", false)
	wantSeparator(t, "b", "a", "", false)
	wantSeparator(t, "ab", "a", "", false)
	wantSeparator(t, "a\x00", "a", "", false)
	wantSeparator(t, "\x80", "\x7f\xff", "", false)
}
