package keys_test

import (
	"math/rand/v2"
	"slices"
	"sort"
	"testing"

	"cresset/api"
	"cresset/keys"
)

// The document's words written down a second time over lists of bytes, so that what the package does can be held against them.

// below holds two texts against each other byte by byte, a beginning being less than the whole.
func below(a, b string) bool {
	for at := 0; ; at++ {
		if at == len(b) {
			return false
		}
		if at == len(a) {
			return true
		}
		if int(a[at]) != int(b[at]) {
			return int(a[at]) < int(b[at])
		}
	}
}

func has(r api.Range, text string) bool {
	if below(text, r.Low) {
		return false
	}
	return len(r.High) == 0 || below(text, r.High)
}

func anyHas(l []api.Range, text string) bool {
	for _, r := range l {
		if has(r, text) {
			return true
		}
	}
	return false
}

func allHave(l []api.Range, text string) bool {
	for _, r := range l {
		if !has(r, text) {
			return false
		}
	}
	return true
}

// same holds two lists against each other; empty and nil ones are the same.
func same(a, b []api.Range) bool { return slices.Equal(a, b) }

// edges has each text at which a list of ranges can begin or end, and the least text of all, rising.
func edges(l []api.Range) []string {
	list := []string{""}
	for _, r := range l {
		list = append(list, r.Low, r.High)
	}
	sort.Slice(list, func(i, j int) bool { return below(list[i], list[j]) })
	return slices.Compact(list)
}

// joined has the ranges of what holds, as few as can be: what holds must be the same from each edge up to the next one.
func joined(at []string, holds func(string) bool) []api.Range {
	var list []api.Range
	open := false
	for _, text := range at {
		is := holds(text)
		if is && !open {
			list = append(list, api.Range{Low: text})
		}
		if !is && open {
			list[len(list)-1].High = text
		}
		open = is
	}
	return list
}

func wordsUnion(l []api.Range) []api.Range {
	return joined(edges(l), func(text string) bool { return anyHas(l, text) })
}

func wordsMinus(l []api.Range, r api.Range) []api.Range {
	return joined(edges(append(slices.Clone(l), r)), func(text string) bool { return anyHas(l, text) && !has(r, text) })
}

// texts has all texts of at most so many of these bytes.
func texts(most int, of ...byte) []string {
	list, last := []string{""}, []string{""}
	for range most {
		var longer []string
		for _, s := range last {
			for _, b := range of {
				longer = append(longer, s+string([]byte{b}))
			}
		}
		list = append(list, longer...)
		last = longer
	}
	return list
}

func spans(of []string) []api.Range {
	var list []api.Range
	for _, low := range of {
		for _, high := range of {
			list = append(list, span(low, high))
		}
	}
	return list
}

// P5.1, P5.6: all small ranges and texts.
func TestOneRangeByWords(t *testing.T) {
	all := texts(3, 0, 1, 'a', 254, 255)
	for _, r := range spans(texts(2, 0, 1, 'a', 254, 255)) {
		none := true
		for _, text := range all {
			is := has(r, text)
			none = none && !is
			if keys.In(r, text) != is {
				t.Fatalf("In(%q, %q) = %v", r, text, !is)
			}
		}
		// What is not empty has its Low, which is one of all.
		if keys.Empty(r) != none {
			t.Fatalf("Empty(%q) = %v", r, !none)
		}
	}
	for _, key := range all {
		next, one := keys.Next(key), keys.One(key)
		for _, text := range append(slices.Clone(all), next, next+"\x00") {
			if below(key, text) && below(text, next) {
				t.Fatalf("%q is between %q and its Next", text, key)
			}
			if has(one, text) != (text == key) {
				t.Fatalf("%q in One(%q): %v", text, key, has(one, text))
			}
		}
		if !below(key, next) {
			t.Fatalf("Next(%q) = %q is not above", key, next)
		}
	}
}

// P5.1: Prefix has just the texts that begin so, and its High is just behind them.
func TestPrefixByWords(t *testing.T) {
	all := texts(4, 0, 'a', 254, 255)
	for _, s := range texts(3, 0, 'a', 254, 255) {
		r := keys.Prefix(s)
		if r.Low != s {
			t.Fatalf("Prefix(%q) = %q", s, r)
		}
		for _, text := range all {
			begins := len(text) >= len(s) && text[:len(s)] == s
			if has(r, text) != begins {
				t.Fatalf("%q in Prefix(%q) = %q: %v", text, s, r, !begins)
			}
		}
		if n := len(r.High); n > 0 && r.High[n-1] == 0 {
			t.Fatalf("Prefix(%q) = %q has a longer High than it needs", s, r)
		}
	}
	for b := range 255 {
		s := "x" + string([]byte{byte(b)})
		wantRange(t, "Prefix", keys.Prefix(s+"\xff"), span(s+"\xff", "x"+string([]byte{byte(b + 1)})))
	}
}

// P5.2, P5.5: all pairs of small ranges.
func TestTwoRangesByWords(t *testing.T) {
	all := texts(3, 0, 'a', 255)
	list := spans(texts(2, 0, 'a', 255))
	for _, a := range list {
		for _, b := range list {
			met := keys.Meet(a, b)
			both, covered := false, true
			for _, text := range all {
				inA, inB := has(a, text), has(b, text)
				both = both || inA && inB
				covered = covered && (inA || !inB)
				if has(met, text) != (inA && inB) {
					t.Fatalf("Meet(%q, %q) = %q at %q", a, b, met, text)
				}
			}
			if keys.Overlap(a, b) != both || keys.Covers(a, b) != covered {
				t.Fatalf("%q and %q: Overlap %v, Covers %v", a, b, !both, !covered)
			}
		}
	}
}

// P5.3, P5.5: a separator is a beginning of b, above a, and no shorter one is.
func TestSeparatorByWords(t *testing.T) {
	list := texts(4, 0, 'a', 255)
	for _, a := range list {
		for _, b := range list {
			wanted, ok := "", false
			for n := 0; n <= len(b) && below(a, b) && !ok; n++ {
				if below(a, b[:n]) {
					wanted, ok = b[:n], true
				}
			}
			got, is := keys.Separator(a, b)
			if got != wanted || is != ok {
				t.Fatalf("Separator(%q, %q) = %q, %v", a, b, got, is)
			}
			if is && (!below(a, got) || below(b, got)) {
				t.Fatalf("Separator(%q, %q) = %q does not part", a, b, got)
			}
		}
	}
}

func checkList(t *testing.T, l []api.Range, cut api.Range, probes []string) {
	t.Helper()
	before := slices.Clone(l)
	union, left, met := keys.Union(l...), keys.Minus(l, cut), keys.Meet(l...)
	if !same(union, wordsUnion(l)) {
		t.Fatalf("Union(%q) = %q, want %q", l, union, wordsUnion(l))
	}
	if !same(left, wordsMinus(l, cut)) {
		t.Fatalf("Minus(%q, %q) = %q, want %q", l, cut, left, wordsMinus(l, cut))
	}
	for _, text := range probes {
		is := anyHas(l, text)
		if keys.Hits(l, text) != is || keys.Hits(union, text) != is || keys.Hits(left, text) != (is && !has(cut, text)) || has(met, text) != allHave(l, text) {
			t.Fatalf("%q of %q, without %q: Union %q, Minus %q, Meet %q", text, l, cut, union, left, met)
		}
	}
	if !slices.Equal(l, before) {
		t.Fatalf("what was handed in is %q, was %q", l, before)
	}
}

// P5.4, P5.5: all lists of at most three of the ranges of a few texts, without each of these.
func TestAllShortLists(t *testing.T) {
	few := []string{"", "\x00", "a", "a\x00"}
	list, probes := spans(few), texts(3, 0, 'a')
	for _, cut := range list {
		checkList(t, nil, cut, probes)
		for _, a := range list {
			checkList(t, []api.Range{a}, cut, probes)
			for _, b := range list {
				checkList(t, []api.Range{a, b}, cut, probes)
				for _, c := range list {
					checkList(t, []api.Range{a, b, c}, cut, probes)
				}
			}
		}
	}
}

// P5.4, P5.5: long lists of all kinds of ranges.
func TestLongListsByWords(t *testing.T) {
	r := rand.New(rand.NewPCG(5, 5))
	for _, bytes := range [][]byte{{0, 1}, {0, 'a', 255}, {'a', 'b', 'c', 'd', 127, 128, 254, 255}} {
		of := texts(3, bytes...)
		text := func() string {
			s := of[r.IntN(len(of))]
			if r.IntN(4) == 0 {
				s += of[r.IntN(len(of))] // longer than what is probed otherwise
			}
			return s
		}
		for range 1500 {
			var l []api.Range
			for range r.IntN(14) {
				low, high := text(), text()
				switch r.IntN(8) {
				case 0:
					high = low + string([]byte{0})
				case 1:
					high = ""
				case 2:
					if len(l) > 0 {
						low = l[r.IntN(len(l))].High // they touch
					}
				case 3, 4:
					high = low + text()
				}
				l = append(l, span(low, high))
			}
			cut := span(text(), text())
			probes := append(edges(append(slices.Clone(l), cut)), text(), text(), text())
			checkList(t, l, cut, probes)
		}
	}
}
