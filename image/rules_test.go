package image_test

import (
	"iter"
	"math"
	"slices"
	"strings"
	"testing"

	"cresset/api"
	"cresset/image"
	"cresset/record"
)

// The calls that the chapter lists keep their signatures.
var (
	_ func(int64) (*image.Image, api.Errno)                                       = image.New
	_ func(*image.Image, string, ...api.Version) api.Errno                        = (*image.Image).Add
	_ func(*image.Image) int64                                                    = (*image.Image).TS
	_ func(*image.Image) string                                                   = (*image.Image).From
	_ func(*image.Image) int                                                      = (*image.Image).Len
	_ func(*image.Image) iter.Seq[api.Stamped]                                    = (*image.Image).Pairs
	_ func(*image.Image) iter.Seq[api.Chunk]                                      = (*image.Image).Chunks
	_ func(...api.Chunk) ([]api.Stamped, api.Errno)                               = image.Build
	_ func([]api.Stamped, int64, ...api.Commit) ([]api.Stamped, int64, api.Errno) = image.Redo
	_ func([]api.Stamped) []api.Pair                                              = image.Map
)

func TestErrorsHaveTheirNumbers(t *testing.T) {
	got := []api.Errno{api.OK, api.ErrArg, api.ErrMade, api.ErrLong, api.ErrKey, api.ErrValue, api.ErrField, api.ErrOrder, api.ErrVersion, api.MaxChunk, api.MaxChunks, api.MaxTS, api.MaxVersions}
	if wanted := []api.Errno{0, 1, 2, 3, 30, 31, 32, 150, 151, 16, 4096, maxTS, 1024}; !slices.Equal(got, wanted) {
		t.Errorf("errors and limits are %v, want %v", got, wanted)
	}
}

// R1: whatever is handed in, each call ends, and none panics.
func TestAnyArguments(t *testing.T) {
	stamps := []int64{math.MinInt64, math.MinInt64 + 1, -1, 0, 1, maxTS - 1, maxTS, maxTS + 1, math.MaxInt64 - 1, math.MaxInt64}
	texts := []string{"", "\x00", "a", "\xed\xa0\x80", "\xff", longKey, longKey + "k", longValue, strings.Repeat("\xff", 5000)}
	var pairs []api.Stamped
	var versions []api.Version
	var commits []api.Commit
	var chunks []api.Chunk
	for i, ts := range stamps {
		s := texts[i%len(texts)]
		pairs = append(pairs, pair(s, s, ts))
		versions = append(versions, has(ts, s), gone(ts), api.Version{TS: ts, Value: s, Del: true})
		commits = append(commits, commit(ts, sets(s, s)), commit(ts, drops("a")), commit(ts))
		for _, number := range []int{math.MinInt, -1, 0, 1, 4095, 4096, math.MaxInt} {
			chunks = append(chunks, api.Chunk{Number: number, List: pairs, Last: i%2 == 0}, api.Chunk{Number: number})
		}
	}
	for _, ts := range stamps {
		m, _ := image.New(ts)
		for _, key := range texts {
			for at := range versions {
				m.Add(key, versions[at:]...)
				m.Add(key, versions[at])
			}
		}
		for from := range pairs {
			image.Map(pairs[from:])
			for at := range commits {
				holdRedo(t, pairs[from:], ts, commits[at:])
				holdRedo(t, pairs[from:from+1], ts, commits[at:at+1])
			}
		}
	}
	for at := range chunks {
		holdBuild(t, chunks[at:])
		holdBuild(t, chunks[at:at+1])
	}
}

// P18.3, R5: of an image that no call made.
func TestNotMade(t *testing.T) {
	var zero image.Image
	for _, m := range []*image.Image{nil, &zero} {
		for _, key := range []string{"", "a", longKey + "k"} {
			want(t, "Add", m.Add(key, has(1, "x")), api.ErrMade)
			want(t, "Add", m.Add(key), api.ErrMade)
			want(t, "Add", m.Add(key, has(0, "x")), api.ErrMade)
		}
		if m.TS() != 0 || m.From() != "" || m.Len() != 0 {
			t.Errorf("%d, %q, %d", m.TS(), m.From(), m.Len())
		}
		for p := range m.Pairs() {
			t.Errorf("a pair %v", p)
		}
		for c := range m.Chunks() {
			t.Errorf("a chunk %v", c)
		}
	}
}

// R2: a refused Add changes nothing.
func TestRefusedChangesNothing(t *testing.T) {
	m := newImage(t, 6)
	want(t, "a", m.Add("a", has(5, "x")), api.OK)
	want(t, "b", m.Add("b", gone(5)), api.OK)
	for range 3 {
		m.Add("")
		m.Add(longKey + "k")
		m.Add("a", has(1, "y"))
		m.Add("b", has(1, "y"))
		m.Add("c", has(1, "y"), has(2, "y"))
		m.Add("c", manyVersions(2000, 1025)...)
		wantImage(t, m, 6, "b\x00", pair("a", "x", 5))
	}
}

// R3: what is handed in is left as it is, also behind its end, and is not kept.
func TestWhatIsHandedInIsLeft(t *testing.T) {
	versions := []api.Version{has(7, "y"), has(5, "x"), has(99, "behind")}
	pairs := stamped(pair("a", "1", 1), pair("b", "2", 2), pair("c", "3", 3), pair("q", "behind", 9), pair("q", "behind", 9))
	commits := []api.Commit{commit(4, sets("a", "n"), drops("b")), commit(5, sets("bb", "n")), commit(77, sets("behind", ""))}
	chunks := append(paperChunks(rising(40)), chunk(9, true, "behind"))
	wereVersions, werePairs := slices.Clone(versions), slices.Clone(pairs)
	m := newImage(t, 6)
	want(t, "Add", m.Add("a", versions[:2]...), api.OK)
	for range 2 {
		image.Map(pairs[:3])
		mustRedo(t, pairs[:3], 3, commits[:2])
		mustRedo(t, pairs[:3], 3, nil)
		mustRedo(t, pairs[:0], 3, commits[:2])
		wantBuild(t, "Build", api.OK, chunks[:3]...)
	}
	if !slices.Equal(versions, wereVersions) || !slices.Equal(pairs, werePairs) {
		t.Errorf("what was handed in is %v, %v", versions, pairs)
	}
	like := []api.Commit{commit(4, sets("a", "n"), drops("b")), commit(5, sets("bb", "n")), commit(77, sets("behind", ""))}
	if !slices.EqualFunc(commits, like, record.SameCommit) || !slices.EqualFunc(chunks, append(paperChunks(rising(40)), chunk(9, true, "behind")), record.SameChunk) {
		t.Errorf("what was handed in is %v, %v", commits, chunks)
	}
	versions[1] = has(1, "changed")
	wantImage(t, m, 6, "a\x00", pair("a", "x", 5))
}

func spoil(l []api.Stamped) {
	for i := range l {
		l[i] = pair("spoilt", "spoilt", -1)
	}
	_ = append(l, pair("spoilt", "spoilt", -1), pair("spoilt", "spoilt", -1))
}

// R3: lists that are answered are nobody else's.
func TestAnswersAreTheCallers(t *testing.T) {
	room := append(make([]api.Stamped, 0, 40), pair("a", "1", 1), pair("b", "2", 2))
	c := []api.Commit{commit(4, sets("a", "n"), drops("b")), commit(5, sets("bb", "n"))}
	for n := range 3 {
		first, _ := mustRedo(t, room, 3, c[:n])
		second, _ := mustRedo(t, room, 3, c[:n])
		whole := slices.Clone(second)
		spoil(first)
		wantPairs(t, "the other answer", second, whole...)
		wantPairs(t, "what was handed in", room[:4], pair("a", "1", 1), pair("b", "2", 2), api.Stamped{}, api.Stamped{})
		room[0].Value = "changed"
		wantPairs(t, "behind a change", second, whole...)
		room[0].Value = "1"
	}
	chunks := []api.Chunk{{List: room, Last: true}}
	first, _ := image.Build(chunks...)
	second, _ := image.Build(chunks...)
	spoil(first)
	wantPairs(t, "the other answer of Build", second, room...)
	wantPairs(t, "what was handed in to Build", room[:4], pair("a", "1", 1), pair("b", "2", 2), api.Stamped{}, api.Stamped{})
	m := image.Map(room)
	m[0].Value = "spoilt"
	_ = append(m, api.Pair{Key: "spoilt"})
	wantPairs(t, "what was handed in to Map", room[:4], pair("a", "1", 1), pair("b", "2", 2), api.Stamped{}, api.Stamped{})
}

// R3: the lists of chunks are nobody else's, each time they are gone through.
func TestChunksAreTheCallers(t *testing.T) {
	m, whole := full(t, 40), rising(40)
	seq := m.Chunks()
	var kept []api.Chunk
	for range 3 {
		at := 0
		for c := range seq {
			kept = append(kept, c)
			wantPairs(t, "a chunk", c.List, whole[at:min(at+16, 40)]...)
			spoil(c.List)
			at += 16
		}
	}
	for i := range kept {
		for n := range kept[i].List {
			kept[i].List[n].TS = int64(i)
		}
	}
	for i, c := range kept {
		if slices.ContainsFunc(c.List, func(p api.Stamped) bool { return p.TS != int64(i) }) {
			t.Errorf("the chunk %d shares its list", i)
		}
	}
	wantPairs(t, "Pairs", slices.Collect(m.Pairs()), whole...)
}

// R3: an iterator tells what was there when it was asked for; it may stop at any point, and be done again.
func TestIteratorsTellWhatWasThere(t *testing.T) {
	m := newImage(t, 5)
	var pairs []iter.Seq[api.Stamped]
	var chunks []iter.Seq[api.Chunk]
	for i := range 40 {
		pairs, chunks = append(pairs, m.Pairs()), append(chunks, m.Chunks())
		want(t, "Add", m.Add(name(i), has(5, "v")), api.OK)
	}
	for i := range 40 {
		for range 2 {
			wantPairs(t, "Pairs", slices.Collect(pairs[i]), rising(i)...)
			if got := slices.Collect(chunks[i]); !slices.EqualFunc(got, paperChunks(rising(i)), record.SameChunk) {
				t.Fatalf("the chunks of %d pairs: %v", i, got)
			}
		}
	}
	at := 0
	for p := range m.Pairs() { // while others go on
		if p.Key != name(at) {
			t.Fatalf("the pair %d is %v", at, p)
		}
		want(t, "Add on the way", m.Add(name(100+at), has(5, "v")), api.OK)
		at++
	}
	if at != 40 || m.Len() != 80 {
		t.Errorf("%d pairs were told of 40, there are %d", at, m.Len())
	}
}

// R3: stopped at each point, done again, and within itself.
func TestIteratorsMayStop(t *testing.T) {
	m, whole := full(t, 50), rising(50)
	pairs, chunks := m.Pairs(), m.Chunks()
	for stop := 1; stop <= 50; stop++ {
		var got []api.Stamped
		for p := range pairs {
			if got = append(got, p); len(got) == stop {
				break
			}
		}
		wantPairs(t, "up to where it stopped", got, whole[:stop]...)
	}
	for stop := 1; stop <= 4; stop++ {
		var got []api.Chunk
		for c := range chunks {
			if inner := slices.Collect(chunks); len(inner) != 4 {
				t.Fatalf("%d chunks within", len(inner))
			}
			if got = append(got, c); len(got) == stop {
				break
			}
		}
		if !slices.EqualFunc(got, paperChunks(whole)[:stop], record.SameChunk) {
			t.Errorf("up to where it stopped: %v", got)
		}
	}
}

// R4: empty and nil lists are the same.
func TestEmptyAndNilLists(t *testing.T) {
	for _, l := range [][]api.Stamped{nil, {}} {
		for _, c := range [][]api.Commit{nil, {}} {
			wantRedo(t, "of none", l, 3, c, 3)
		}
		wantRedo(t, "of none", l, 3, []api.Commit{commit(4, sets("a", "1"))}, 4, pair("a", "1", 4))
		if got := image.Map(l); len(got) != 0 {
			t.Errorf("Map of none = %v", got)
		}
		if got, e := image.Build(api.Chunk{List: l, Last: true}); len(got) != 0 || e != api.OK {
			t.Errorf("Build of none = %v, %d", got, e)
		}
	}
	for _, c := range [][]api.Chunk{nil, {}} {
		wantBuild(t, "no chunks", api.ErrArg, c...)
	}
	for _, w := range [][]api.Write{nil, {}} {
		refuseRedo(t, "no writes", api.ErrField, nil, 3, commit(4, w...))
	}
	for _, v := range [][]api.Version{nil, {}} {
		m := newImage(t, 6)
		want(t, "no versions", m.Add("a", v...), api.OK)
		wantImage(t, m, 6, "a\x00")
	}
}

// R6: the order of a Go map is not to be seen in an answer.
func TestSameAgain(t *testing.T) {
	var c []api.Commit
	for ts := range int64(100) {
		w := []api.Write{sets(name(int(ts*7919%500)), "1"), sets(name(1000+int(ts*31%200)), "2")}
		c = append(c, commit(ts+1, w...))
	}
	first, last := mustRedo(t, rising(300), 0, c)
	for range 50 {
		if again, lastAgain := mustRedo(t, rising(300), 0, c); lastAgain != last || !slices.Equal(again, first) {
			t.Fatal("another answer the second time")
		}
	}
}

// The bound: lists of this length would not end in time if each part were held against each other one.
func TestLongLists(t *testing.T) {
	const many = 300000
	l := rising(many)
	var c []api.Commit
	for i := range many {
		at := i * 7919 % many // each place once, far from the last one
		w := []api.Write{sets(name(at), "c"), drops(name(at + 1)), sets("x"+name(at), "c")}
		c = append(c, commit(int64(i+10), w...))
	}
	got, last := mustRedo(t, l, 9, c)
	if last != many+9 || len(got) < many || len(image.Map(got)) != len(got) {
		t.Fatalf("Redo has %d, up to %d", len(got), last)
	}
	if again, _ := mustRedo(t, l, many+9, c); !slices.Equal(again, l) {
		t.Fatal("commits that the snapshot has")
	}
	refuseRedo(t, "the last two keys", api.ErrOrder, append(l, l[many-1]), 9, c...)
	chunks := slices.Repeat([]api.Chunk{{}}, many)
	wantBuild(t, "many empty chunks", api.ErrArg, chunks...)
	m := newImage(t, 1500)
	for i := range 60000 {
		want(t, "Add", m.Add(name(i), has(1500, longValue)), api.OK)
		if m.Len() != i+1 || m.From() != name(i)+"\x00" {
			t.Fatalf("Len %d, From %q", m.Len(), m.From())
		}
		m.Pairs()
		m.Chunks()
	}
}

// The bound: keys that begin alike, as long as they come.
func TestLongKeys(t *testing.T) {
	long := strings.Repeat("k", 100000)
	var l []api.Stamped
	for i := range 1000 {
		l = append(l, pair(long+name(i), "", 1))
	}
	got, last := mustRedo(t, l, 3, []api.Commit{commit(4, sets("a", "1"), sets("z", "1"))})
	if len(got) != 1002 || last != 4 || got[0].Key != "a" || got[1001].Key != "z" {
		t.Errorf("%d pairs up to %d", len(got), last)
	}
}
