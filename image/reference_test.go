package image_test

import (
	"math/rand/v2"
	"slices"
	"strings"
	"testing"

	"cresset/api"
	"cresset/image"
	"cresset/record"
	"cresset/version"
)

// The document's words written down a second time: a paper on which each Add that answered OK stands, and from which all is told anew each time; commits are done write by write.

type added struct {
	key string
	l   []api.Version
}

type paper struct {
	ts    int64
	added []added
}

func (p *paper) pairs() []api.Stamped {
	var list []api.Stamped
	for _, a := range p.added {
		for _, v := range a.l {
			if v.TS > p.ts {
				continue
			}
			if !v.Del {
				list = append(list, pair(a.key, v.Value, v.TS))
			}
			break
		}
	}
	return list
}

func (p *paper) from() string {
	if len(p.added) == 0 {
		return ""
	}
	return p.added[len(p.added)-1].key + "\x00"
}

func (p *paper) add(key string, l []api.Version) api.Errno {
	switch {
	case len(key) < 1 || len(key) > 64:
		return 30
	case len(p.added) > 0 && !(key > p.added[len(p.added)-1].key):
		return 150
	case len(l) > 1024:
		return 3
	}
	for i, v := range l {
		odd := v.TS < 1 || v.TS > 1<<40 || len(v.Value) > 256 || v.Del && v.Value != ""
		if odd || i > 0 && l[i-1].TS <= v.TS {
			return 151
		}
	}
	p.added = append(p.added, added{key, slices.Clone(l)})
	return 0
}

// paperChunks are the chunks of pairs: the pair i stands in the chunk i / 16.
func paperChunks(l []api.Stamped) []api.Chunk {
	list := []api.Chunk{{}}
	for i, p := range l {
		if i/16 == len(list) {
			list = append(list, api.Chunk{Number: i / 16})
		}
		list[i/16].List = append(list[i/16].List, p)
	}
	list[len(list)-1].Last = true
	return list
}

// paperBuild looks at the chunks one by one, and asks of each key whether it is above all ahead of its chunk.
func paperBuild(l []api.Chunk) ([]api.Stamped, api.Errno) {
	for n := range l {
		if e := record.CheckChunk(l[n]); e != 0 {
			return nil, e
		}
		final := n+1 == len(l)
		if l[n].Number != n || l[n].Last && !final || !l[n].Last && final {
			return nil, 1
		}
		for _, ahead := range l[:n] {
			for _, p := range ahead.List {
				if len(l[n].List) > 0 && l[n].List[0].Key <= p.Key {
					return nil, 150
				}
			}
		}
	}
	if len(l) == 0 {
		return nil, 1
	}
	var all []api.Stamped
	for _, c := range l {
		all = append(all, c.List...)
	}
	return all, 0
}

// paperWrite does a write to pairs: the key goes, and comes anew at its place.
func paperWrite(l []api.Stamped, w api.Write, ts int64) []api.Stamped {
	var below, above []api.Stamped
	for _, p := range l {
		if p.Key < w.Key {
			below = append(below, p)
		} else if p.Key > w.Key {
			above = append(above, p)
		}
	}
	if !w.Del {
		below = append(below, pair(w.Key, w.Value, ts))
	}
	return append(below, above...)
}

func paperRedo(l []api.Stamped, ts int64, c []api.Commit) ([]api.Stamped, int64, api.Errno) {
	for i := 1; i < len(l); i++ {
		if strings.Compare(l[i-1].Key, l[i].Key) >= 0 {
			return nil, 0, 150
		}
	}
	list, counted := append([]api.Stamped(nil), l...), []int64{}
	for _, x := range c {
		if e := record.CheckCommit(x); e != 0 {
			return nil, 0, e
		}
		if x.TS <= ts {
			continue
		}
		if len(counted) > 0 && x.TS <= slices.Max(counted) {
			return nil, 0, 150
		}
		counted = append(counted, x.TS)
		for _, w := range x.Writes {
			list = paperWrite(list, w, x.TS)
		}
	}
	if len(counted) == 0 {
		return list, ts, 0
	}
	return list, counted[len(counted)-1], 0
}

// pair of an image and its paper.
type both struct {
	m *image.Image
	p paper
}

func newBoth(t *testing.T, ts int64) *both { return &both{newImage(t, ts), paper{ts: ts}} }

func (b *both) add(t *testing.T, key string, l ...api.Version) {
	t.Helper()
	e := b.m.Add(key, l...)
	if wanted := b.p.add(key, l); e != wanted {
		t.Fatalf("Add(%q, %v) behind %v = %d, want %d", key, l, b.p.added, e, wanted)
	}
	b.hold(t)
}

func (b *both) hold(t *testing.T) {
	t.Helper()
	list := b.p.pairs()
	if b.m.TS() != b.p.ts || b.m.From() != b.p.from() || b.m.Len() != len(list) || !slices.Equal(slices.Collect(b.m.Pairs()), list) {
		t.Fatalf("behind %v at %d: %d, %q, %d, %v", b.p.added, b.p.ts, b.m.TS(), b.m.From(), b.m.Len(), slices.Collect(b.m.Pairs()))
	}
	chunks := slices.Collect(b.m.Chunks())
	if !slices.EqualFunc(chunks, paperChunks(list), record.SameChunk) {
		t.Fatalf("behind %v at %d: %v", b.p.added, b.p.ts, chunks)
	}
}

// shortLists calls what with each list of at most so many of some things.
func shortLists[T any](most int, of []T, what func([]T)) {
	var longer func(l []T)
	longer = func(l []T) {
		what(l)
		if len(l) == most {
			return
		}
		for _, x := range of {
			longer(append(l[:len(l):len(l)], x))
		}
	}
	longer(nil)
}

// P18.1, P18.2: all runs of at most three Adds, right and wrong, at each snapshot.
func TestAllShortRuns(t *testing.T) {
	var of []added
	lists := [][]api.Version{nil, {has(2, "x")}, {gone(2), has(1, "y")}, {has(3, "z"), gone(1)}, {has(3, "z"), has(2, "x"), has(1, "")}, {has(1, "x"), has(1, "y")}}
	for _, key := range []string{"", "a", "a\x00", "b"} {
		for _, l := range lists {
			of = append(of, added{key, l})
		}
	}
	shortLists(3, of, func(l []added) {
		if len(l) < 3 {
			return // its beginnings are held on the way
		}
		for ts := range int64(4) {
			b := newBoth(t, ts)
			for _, a := range l {
				e, wanted := b.m.Add(a.key, a.l...), b.p.add(a.key, a.l)
				if e != wanted || b.m.From() != b.p.from() {
					t.Fatalf("%v at %d: Add(%q) = %d, want %d; From %q", l, ts, a.key, e, wanted, b.m.From())
				}
			}
			b.hold(t)
		}
	})
}

// plenty makes keys, versions, pairs, chunks and commits, most of them right.
type plenty struct{ *rand.Rand }

func (p plenty) text(most int) string {
	b := make([]byte, p.IntN(most+1))
	for i := range b {
		b[i] = []byte{0, 'a', 'b', 255}[p.IntN(4)]
	}
	return string(b)
}

// key is one that may be.
func (p plenty) key() string { return string([]byte{0, 'a', 'b', 255}[p.IntN(4):][:1]) + p.text(3) }

func (p plenty) versions() []api.Version {
	var l []api.Version
	ts := p.Int64N(30) + 1
	for range p.IntN(6) {
		l = append(l, has(ts, p.text(3)))
		if p.IntN(3) == 0 {
			l[len(l)-1] = gone(ts)
		}
		if ts -= 1 + p.Int64N(4); ts < 1 && p.IntN(10) > 0 {
			break
		}
	}
	return l
}

// P18.1, P18.2: long runs of Adds whose keys mostly rise.
func TestAgainstThePaper(t *testing.T) {
	p := plenty{rand.New(rand.NewPCG(18, 1))}
	for range 400 {
		b := newBoth(t, p.Int64N(34))
		step := 1 + p.IntN(40)
		for at := 0; at < 256; at += p.IntN(step + 1) {
			key := string([]byte{byte(at)}) + p.text(1)
			switch p.IntN(30) {
			case 0:
				key = p.text(2)
			case 1:
				key = strings.Repeat("k", 60+p.IntN(10))
			case 2:
				b.add(t, b.p.from(), p.versions()...)
			}
			b.add(t, key, p.versions()...)
		}
	}
}

// pairs is such whose keys rise, but for one now and then.
func (p plenty) pairs(most int, upTo int64) []api.Stamped {
	var l []api.Stamped
	for range p.IntN(most + 1) {
		l = append(l, pair(p.key(), p.text(2), 1+p.Int64N(upTo)))
	}
	slices.SortFunc(l, func(a, b api.Stamped) int { return strings.Compare(a.Key, b.Key) })
	l = slices.CompactFunc(l, func(a, b api.Stamped) bool { return a.Key == b.Key })
	if len(l) > 1 && p.IntN(20) == 0 {
		at := p.IntN(len(l) - 1)
		l[at+p.IntN(2)].Key = l[at+p.IntN(2)].Key
	}
	if len(l) > 1 && p.IntN(20) == 0 {
		at := p.IntN(len(l) - 1)
		l[at], l[at+1] = l[at+1], l[at]
	}
	return l
}

func (p plenty) writes(most int) []api.Write {
	var l []api.Write
	for range 1 + p.IntN(most) {
		w := sets(p.key(), p.text(2))
		if p.IntN(3) == 0 {
			w = drops(w.Key)
		}
		l = append(l, w)
	}
	slices.SortStableFunc(l, func(a, b api.Write) int { return strings.Compare(a.Key, b.Key) })
	return slices.CompactFunc(l, func(a, b api.Write) bool { return a.Key == b.Key })
}

// commits is such whose timestamps rise, but for one now and then, when odd.
func (p plenty) commits(most int, from int64, odd int) []api.Commit {
	var l []api.Commit
	for range p.IntN(most + 1) {
		from += 1 + p.Int64N(3)
		l = append(l, commit(from, p.writes(6)...))
		if p.IntN(100) < odd {
			l[len(l)-1].TS = from - p.Int64N(8)
		}
		if p.IntN(300) < odd {
			l[len(l)-1].Writes = append(p.writes(3), p.writes(2)...)
		}
	}
	return l
}

func holdRedo(t *testing.T, l []api.Stamped, ts int64, c []api.Commit) api.Errno {
	t.Helper()
	got, last, e := image.Redo(l, ts, c...)
	list, wantedLast, wanted := paperRedo(l, ts, c)
	if e != wanted || last != wantedLast || !slices.Equal(got, list) {
		t.Fatalf("Redo(%v, %d, %v) = %v, %d, %d, want %v, %d, %d", l, ts, c, got, last, e, list, wantedLast, wanted)
	}
	return e
}

// P18.3: all lists of at most two pairs and four commits, right and wrong, at each snapshot.
func TestAllShortRedos(t *testing.T) {
	of := []api.Commit{
		commit(1, sets("a", "n")), commit(2, drops("a"), sets("b", "n")), commit(2, sets("c", "n")),
		commit(3, sets("a", "m"), drops("b")), commit(4, drops("a"), drops("c")), commit(4, sets("b", "o")),
		commit(3), commit(2, sets("", "")),
	}
	keys := stamped(pair("", "1", 1), pair("a", "2", 2), pair("b", "3", 1))
	shortLists(2, keys, func(l []api.Stamped) {
		shortLists(4, of, func(c []api.Commit) {
			for ts := range int64(5) {
				holdRedo(t, l, ts, c)
			}
		})
	})
}

// P18.3: long lists of pairs and commits.
func TestLongRedos(t *testing.T) {
	p := plenty{rand.New(rand.NewPCG(18, 2))}
	count := map[api.Errno]int{}
	for range 3000 {
		c := p.commits(40, p.Int64N(5), p.IntN(2)*p.IntN(4))
		count[holdRedo(t, p.pairs(60, 20), p.Int64N(60), c)]++
	}
	for _, e := range []api.Errno{api.OK, api.ErrOrder, api.ErrField} {
		if count[e] < 50 {
			t.Errorf("error %d was told %d times", e, count[e])
		}
	}
}

func holdBuild(t *testing.T, l []api.Chunk) api.Errno {
	t.Helper()
	got, e := image.Build(l...)
	list, wanted := paperBuild(l)
	if e != wanted || !slices.Equal(got, list) {
		t.Fatalf("Build(%v) = %v, %d, want %v, %d", l, got, e, list, wanted)
	}
	return e
}

// P18.2: all lists of at most four chunks of some.
func TestAllShortBuilds(t *testing.T) {
	var of []api.Chunk
	for n := range 3 {
		of = append(of, chunk(n, false), chunk(n, false, "b"), chunk(n, true, "a"), chunk(n, true, "c"))
	}
	of = append(of, chunk(0, true), chunk(0, false, "a", "c"), chunk(1, true, "b", "b"), chunk(2, true, ""))
	shortLists(4, of, func(l []api.Chunk) { holdBuild(t, l) })
}

// P18.2: long lists of chunks, in which something was changed now and then.
func TestLongBuilds(t *testing.T) {
	p := plenty{rand.New(rand.NewPCG(18, 3))}
	count := map[api.Errno]int{}
	for range 3000 {
		l := paperChunks(p.pairs(100, 20))
		at := p.IntN(len(l))
		switch p.IntN(8) {
		case 0:
			l[at].Number += p.IntN(3) - 1
		case 1:
			l[at].Last = !l[at].Last
		case 2:
			l[at].List = l[at].List[:p.IntN(len(l[at].List)+1)]
		case 3:
			l[at].List = append(l[at].List, l[p.IntN(len(l))].List...)
		case 4:
			l[at].List = l[p.IntN(len(l))].List
		case 5:
			l = append(l[:at:at], l[p.IntN(len(l)):]...)
		}
		count[holdBuild(t, l)]++
	}
	for _, e := range []api.Errno{api.OK, api.ErrArg, api.ErrOrder, api.ErrField} {
		if count[e] < 50 {
			t.Errorf("error %d was told %d times", e, count[e])
		}
	}
}

// P18.3: Map by the words, of any pairs; version.Map of what rises is the same.
func TestLongMaps(t *testing.T) {
	p := plenty{rand.New(rand.NewPCG(18, 4))}
	for range 500 {
		l := p.pairs(60, 20)
		got := image.Map(l)
		if len(got) != len(l) {
			t.Fatalf("Map(%v) = %v", l, got)
		}
		for i := range l {
			if got[i].Key != l[i].Key || got[i].Value != l[i].Value {
				t.Fatalf("Map(%v) = %v", l, got)
			}
		}
		if _, _, e := image.Redo(l, 0); e == api.OK && !slices.Equal(version.Overlay(got), got) {
			t.Fatalf("Map(%v) = %v is no map", l, got)
		}
	}
}
