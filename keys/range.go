package keys

import (
	"strings"

	"cresset/api"
)

// One is the range that has just key.
func One(key string) api.Range { return api.Range{Low: key, High: Next(key)} }

// Prefix is the range of just the texts that begin with s.
func Prefix(s string) api.Range { return api.Range{Low: s, High: behind(s)} }

// behind is the least text above all that begin with s, or empty: a byte 255 has none above it, so it is cut off.
func behind(s string) string {
	b := []byte(s)
	for len(b) > 0 && b[len(b)-1] == 255 {
		b = b[:len(b)-1]
	}
	if len(b) > 0 {
		b[len(b)-1]++
	}
	return string(b)
}

// In says whether key is in r.
func In(r api.Range, key string) bool { return key >= r.Low && isBelow(key, r.High) }

// isBelow says whether a text is below an end; the empty text is none, so that all are below it.
func isBelow(text, end string) bool { return end == "" || text < end }

// holdEnds holds two ends against each other: one that is none is above all others.
func holdEnds(a, b string) int {
	if (a == "") != (b == "") {
		return strings.Compare(b, a)
	}
	return strings.Compare(a, b)
}

// Empty says whether no text is in r.
func Empty(r api.Range) bool { return !isBelow(r.Low, r.High) }

// Meet is the range of what is in each of l; of none it is all.
func Meet(l ...api.Range) api.Range {
	var met api.Range
	for _, r := range l {
		met.Low = max(met.Low, r.Low)
		if holdEnds(r.High, met.High) < 0 {
			met.High = r.High
		}
	}
	return met
}

// Overlap says whether a text is in both.
func Overlap(a, b api.Range) bool { return !Empty(Meet(a, b)) }

// Covers says whether each text in b is in a.
func Covers(a, b api.Range) bool {
	return Empty(b) || a.Low <= b.Low && holdEnds(b.High, a.High) <= 0
}
