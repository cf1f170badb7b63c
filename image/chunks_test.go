package image_test

import (
	"slices"
	"testing"

	"cresset/api"
	"cresset/image"
	"cresset/record"
)

// rising is so many pairs whose keys rise.
func rising(many int) []api.Stamped {
	var l []api.Stamped
	for i := range many {
		l = append(l, pair(name(i), "v", 5))
	}
	return l
}

// P18.2: each number of pairs up to four chunks and one more.
func TestChunks(t *testing.T) {
	for many := range 66 {
		m := full(t, many)
		at, whole := 0, rising(many)
		for c := range m.Chunks() {
			part := whole[min(at*16, many):min(at*16+16, many)]
			last := at == (max(many, 1)-1)/16
			if c.Number != at || c.Last != last || !slices.Equal(c.List, part) {
				t.Fatalf("the chunk %d of %d pairs: %d, %v, %v", at, many, c.Number, c.Last, c.List)
			}
			want(t, "CheckChunk", record.CheckChunk(c), api.OK)
			at++
		}
		if at != (max(many, 1)-1)/16+1 {
			t.Fatalf("%d pairs in %d chunks", many, at)
		}
	}
}

// P18.2: the greatest image has as many chunks as there may be.
func TestChunksOfTheMost(t *testing.T) {
	m := full(t, most)
	list := slices.Collect(m.Chunks())
	if len(list) != 4096 || !list[4095].Last || list[4095].Number != 4095 || len(list[4095].List) != 16 || list[4094].Last {
		t.Fatalf("%d chunks", len(list))
	}
	got, e := image.Build(list...)
	if e != api.OK || !slices.Equal(got, slices.Collect(m.Pairs())) {
		t.Errorf("Build has %d pairs, %d", len(got), e)
	}
	more := api.Chunk{Number: 4096, List: []api.Stamped{pair("z", "", 1)}, Last: true}
	list[4095].Last = false
	wantBuild(t, "4,097 chunks", api.ErrField, append(list, more)...)
}

func wantBuild(t *testing.T, what string, wanted api.Errno, l ...api.Chunk) {
	t.Helper()
	got, e := image.Build(l...)
	if e != wanted || e != api.OK && got != nil {
		t.Errorf("%s: Build = %v, %d, want %d", what, got, e, wanted)
	}
}

// chunk is one with keys of timestamp 5.
func chunk(number int, last bool, keys ...string) api.Chunk {
	c := api.Chunk{Number: number, Last: last}
	for _, k := range keys {
		c.List = append(c.List, pair(k, "v"+k, 5))
	}
	return c
}

// P18.2: all pairs, in order; a chunk may have few pairs or none, wherever it stands.
func TestBuild(t *testing.T) {
	for _, l := range [][]api.Chunk{
		{chunk(0, true)},
		{chunk(0, true, "a")},
		{chunk(0, false), chunk(1, true)},
		{chunk(0, false, "a"), chunk(1, true)},
		{chunk(0, false), chunk(1, true, "a")},
		{chunk(0, false, "a"), chunk(1, true, "a\x00")},
		{chunk(0, false, "a", "b"), chunk(1, false), chunk(2, false), chunk(3, true, "c", "d")},
		{chunk(0, false, "\x00", "\x7f"), chunk(1, true, "\x80", "\xff")},
	} {
		var wanted []api.Stamped
		for _, c := range l {
			wanted = append(wanted, c.List...)
		}
		got, e := image.Build(l...)
		want(t, "Build", e, api.OK)
		wantPairs(t, "Build", got, wanted...)
	}
}

// P18.2: what may not be.
func TestBuildRefuses(t *testing.T) {
	a, b, end := chunk(0, false, "a"), chunk(1, false, "b"), chunk(2, true, "c")
	long := chunk(0, true)
	for i := range 17 {
		long.List = append(long.List, pair(name(i), "", 1))
	}
	with := func(p ...api.Stamped) api.Chunk { return api.Chunk{Last: true, List: p} }
	wantBuild(t, "no chunks", api.ErrArg)
	wantBuild(t, "three", api.OK, a, b, end)
	wantBuild(t, "the first one left out", api.ErrArg, b, end)
	wantBuild(t, "the second one left out", api.ErrArg, a, end)
	wantBuild(t, "the last one left out", api.ErrArg, a, b)
	wantBuild(t, "the first one alone", api.ErrArg, a)
	wantBuild(t, "the last one alone", api.ErrArg, end)
	wantBuild(t, "changed about", api.ErrArg, b, a, end)
	wantBuild(t, "twice", api.ErrArg, a, a, b, end)
	wantBuild(t, "the end twice", api.ErrArg, a, b, end, end)
	wantBuild(t, "behind the end", api.ErrArg, chunk(0, true, "a"), chunk(1, true, "b"))
	wantBuild(t, "an empty one behind the end", api.ErrArg, chunk(0, true, "a"), chunk(1, true))
	wantBuild(t, "an end in the midst", api.ErrArg, a, chunk(1, true, "b"), end)
	wantBuild(t, "number 1 alone", api.ErrArg, chunk(1, true, "a"))
	wantBuild(t, "number -1", api.ErrField, chunk(-1, true, "a"))
	wantBuild(t, "number 4,096", api.ErrField, chunk(4096, true, "a"))
	wantBuild(t, "number 4,095", api.ErrArg, chunk(4095, true, "a"))
	wantBuild(t, "17 pairs", api.ErrField, long)
	wantBuild(t, "an empty key", api.ErrKey, with(pair("", "v", 1)))
	wantBuild(t, "a long key", api.ErrKey, with(pair(longKey+"k", "v", 1)))
	wantBuild(t, "a long value", api.ErrValue, with(pair("a", longValue+"v", 1)))
	wantBuild(t, "a timestamp 0", api.ErrField, with(pair("a", "v", 0)))
	wantBuild(t, "one above MaxTS", api.ErrField, with(pair("a", "v", maxTS+1)))
	wantBuild(t, "the greatest ones", api.OK, with(pair(longKey, longValue, maxTS)))
	wantBuild(t, "the same key in a chunk", api.ErrField, chunk(0, true, "a", "a"))
	wantBuild(t, "the same key in the next one", api.ErrOrder, a, chunk(1, true, "a"))
	wantBuild(t, "a lesser key in the next one", api.ErrOrder, chunk(0, false, "a", "c"), chunk(1, true, "b", "d"))
	wantBuild(t, "a beginning of the key in the next one", api.ErrOrder, chunk(0, false, "ab"), chunk(1, true, "a", "b"))
	wantBuild(t, "the same key behind an empty one", api.ErrOrder, a, chunk(1, false), chunk(2, true, "a"))
	wantBuild(t, "a lesser key behind empty ones", api.ErrOrder, b0("b"), chunk(1, false), chunk(2, false), chunk(3, true, "a", "c"))
	wantBuild(t, "a byte above 127 ahead of one below", api.ErrOrder, b0("\x80"), chunk(1, true, "\x7f"))
}

// b0 is the first one of some chunks.
func b0(keys ...string) api.Chunk { return chunk(0, false, keys...) }

// P18.2: the first chunk's error, and of one chunk record's, the place's, the order's.
func TestBuildFirstError(t *testing.T) {
	wantBuild(t, "record ahead of the number", api.ErrKey, chunk(3, true, ""))
	wantBuild(t, "record ahead of the last one", api.ErrKey, chunk(0, false, ""))
	wantBuild(t, "record ahead of the order", api.ErrField, b0("b"), chunk(1, true, "a", "a"))
	wantBuild(t, "the number ahead of the order", api.ErrArg, b0("b"), chunk(2, true, "a"))
	wantBuild(t, "the last one ahead of the order", api.ErrArg, b0("b"), chunk(1, false, "a"))
	wantBuild(t, "not the last one ahead of the order", api.ErrArg, b0("b"), chunk(1, true, "a"), chunk(2, true, "c"))
	wantBuild(t, "the first one's number ahead of the second one's key", api.ErrArg, chunk(1, false, "a"), chunk(1, true, ""))
	wantBuild(t, "the first one's end ahead of the second one's key", api.ErrArg, chunk(0, true, "a"), chunk(1, true, ""))
	wantBuild(t, "the second one's order ahead of the third one's key", api.ErrOrder, b0("b"), chunk(1, false, "a"), chunk(2, true, ""))
	wantBuild(t, "the second one's key ahead of the third one's number", api.ErrKey, b0("b"), chunk(1, false, ""), chunk(3, true, "c"))
	wantBuild(t, "the second one's order ahead of no last one", api.ErrOrder, b0("b"), chunk(1, false, "a"), chunk(2, false, "c"))
}
