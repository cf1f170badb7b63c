package ckpt_test

import (
	"bytes"
	"iter"
	"math"
	"slices"
	"strings"
	"testing"

	"cresset/api"
	"cresset/ckpt"
	"cresset/disk"
	"cresset/record"
)

// The calls that the chapter lists keep their signatures.
var (
	_ func(api.Area, int) api.Errno                              = ckpt.Check
	_ func(*disk.Disk, api.Area, api.Chunk) api.Errno            = ckpt.Write
	_ func(*disk.Disk, api.Area, int) (api.Chunk, api.Errno)     = ckpt.Read
	_ func(*disk.Disk, api.Area, int) ([]api.Stamped, api.Errno) = ckpt.Load
	_ func(*disk.Disk, api.Area) (*ckpt.Writer, api.Errno)       = ckpt.New
	_ func(*ckpt.Writer, ...api.Stamped) api.Errno               = (*ckpt.Writer).Put
	_ func(*ckpt.Writer) (int, api.Errno)                        = (*ckpt.Writer).Done
	_ func(*ckpt.Writer) int                                     = (*ckpt.Writer).Written
	_ func([]api.Stamped) iter.Seq[api.Chunk]                    = ckpt.Cut
)

func TestErrorsHaveTheirNumbers(t *testing.T) {
	got := []api.Errno{api.OK, api.ErrArg, api.ErrMade, api.ErrDown, api.ErrKey, api.ErrValue, api.ErrField, api.ErrArea, api.ErrCkpt, api.ChunkSectors, api.MaxChunk, api.MaxChunks, api.Sector}
	if wanted := []api.Errno{0, 1, 2, 6, 30, 31, 32, 190, 191, 12, 16, 4096, 512}; !slices.Equal(got, wanted) {
		t.Errorf("errors and limits are %v, want %v", got, wanted)
	}
}

// R1: whatever is handed in, each call ends, and none panics.
func TestAnyArguments(t *testing.T) {
	ints := []int{math.MinInt, math.MinInt + 1, -4096, -12, -1, 0, 1, 2, 3, 12, 1365, 4095, 4096, 4097, math.MaxInt/12 + 1, math.MaxInt - 12, math.MaxInt}
	texts := []string{"", "\x00", "a", "\xed\xa0\x80", "\xff", longKey, longKey + "k", longValue, strings.Repeat("\xff", 5000)}
	var pairs []api.Stamped
	for i, n := range ints {
		s := texts[i%len(texts)]
		pairs = append(pairs, pair(s, s, int64(n)), pair(s, "", 1))
	}
	up, down := newDisk(t, 40), newDisk(t, 40)
	want(t, "Crash", down.Crash(), api.OK)
	for _, d := range []*disk.Disk{nil, new(disk.Disk), up, down, newDisk(t, 1)} {
		for _, x := range ints {
			for _, y := range ints {
				a := api.Area{From: x, Chunks: y}
				for i, n := range ints {
					ckpt.Check(a, n)
					ckpt.Read(d, a, n)
					ckpt.Load(d, a, n)
					ckpt.Write(d, a, api.Chunk{Number: n, List: pairs[i : 2*i], Last: true})
					ckpt.Write(d, a, api.Chunk{Number: n, List: pairs[i : i+1]})
				}
				w, _ := ckpt.New(d, a)
				for i := range pairs {
					w.Put(pairs[i : i+i%3]...)
					w.Written()
				}
				w.Done()
				w.Put(pairs...)
				w.Done()
			}
		}
	}
	for i := range pairs {
		for c := range ckpt.Cut(pairs[i:]) {
			if len(c.List) == 0 {
				t.Error("a chunk without pairs")
			}
		}
	}
}

// R5: of a writer that no call made; ErrMade comes first.
func TestNotMade(t *testing.T) {
	for _, w := range []*ckpt.Writer{nil, new(ckpt.Writer)} {
		for range 2 {
			want(t, "Put", w.Put(), api.ErrMade)
			want(t, "Put", w.Put(rising(40)...), api.ErrMade)
			want(t, "Put", w.Put(pair("", "", 0)), api.ErrMade)
			refuseDone(t, "of what no call made", w, api.ErrMade)
			wantWritten(t, w, 0)
		}
	}
}

// R2: what is refused leaves the disk and the writer as they were.
func TestRefusedChangesNothing(t *testing.T) {
	a := api.Area{From: 2, Chunks: 2}
	d := newDisk(t, 40)
	writeAll(t, d, a, keyed(0, false, "a"), keyed(1, true, "b"))
	was := d.Clone()
	for range 2 {
		ckpt.Write(d, api.Area{From: 17, Chunks: 2}, keyed(0, true))
		ckpt.Write(d, a, keyed(2, true))
		ckpt.Write(d, a, keyed(0, true, "a", "a"))
		ckpt.Read(d, a, 2)
		ckpt.Load(d, a, 1)
		ckpt.New(d, api.Area{From: 17, Chunks: 2})
	}
	if !disk.Same(d, was) || d.Calls() != was.Calls() {
		t.Error("something was written")
	}
	w := newWriter(t, d, a)
	want(t, "Put", w.Put(from(0, 10)...), api.OK)
	want(t, "Crash", d.Crash(true, true, true, true), api.OK)
	for range 3 {
		refuseDone(t, "without power", w, api.ErrDown)
		wantWritten(t, w, 0)
	}
	want(t, "Restart", d.Restart(), api.OK)
	wantDone(t, w, 1)
	wantLoad(t, "behind it", d, a, 1, from(0, 10)...)
}

// R3: what is handed in is left as it is, also behind its end, and is not kept; but the disk is the writer's part.
func TestWhatIsHandedInIsLeft(t *testing.T) {
	a := api.Area{From: 0, Chunks: 4}
	d := newDisk(t, 50)
	room := append(rising(40), pair("behind", "", 1), pair("behind", "", 1))
	was := slices.Clone(room)
	w := newWriter(t, d, a)
	want(t, "Put", w.Put(room[:5]...), api.OK)
	seq := ckpt.Cut(room[:40])
	for i := range 5 {
		room[i].Key = "changed"
	}
	want(t, "Put", w.Put(room[5:24]...), api.OK)
	want(t, "Put", w.Put(room[24:40]...), api.OK)
	copy(room, was)
	c := api.Chunk{Number: 3, List: room[:3], Last: true}
	want(t, "Write", ckpt.Write(d, a, c), api.OK)
	if !slices.Equal(room, was) || c.Number != 3 || !c.Last || len(c.List) != 3 {
		t.Errorf("what was handed in is %v, %v", room, c)
	}
	for i := range room {
		room[i] = pair("spoilt", "spoilt", 0)
	}
	wantDone(t, w, 3)
	wantLoad(t, "what was put", d, a, 3, rising(40)...)
	var all []api.Stamped
	for c := range seq {
		all = append(all, c.List...)
	}
	wantPairs(t, "Cut, as it was asked for", all, rising(40)...)
}

func spoil(l []api.Stamped) {
	for i := range l {
		l[i] = pair("spoilt", "spoilt", -1)
	}
	_ = append(l, pair("spoilt", "spoilt", -1))
}

// R3: what is answered is nobody else's.
func TestAnswersAreTheCallers(t *testing.T) {
	a := api.Area{From: 0, Chunks: 4}
	d := newDisk(t, 50)
	pieces(t, d, a, rising(40))
	for range 2 {
		l, _ := ckpt.Load(d, a, 3)
		other, _ := ckpt.Load(d, a, 3)
		spoil(l)
		wantPairs(t, "the other answer", other, rising(40)...)
		c, _ := ckpt.Read(d, a, 1)
		again, _ := ckpt.Read(d, a, 1)
		spoil(c.List)
		wantPairs(t, "the other chunk", again.List, from(16, 16)...)
	}
	seq := ckpt.Cut(rising(40))
	var kept []api.Chunk
	for range 3 {
		at := 0
		for c := range seq {
			wantPairs(t, "a chunk", c.List, from(at, min(16, 40-at))...)
			kept = append(kept, c)
			spoil(c.List)
			at += 16
		}
	}
	for i, c := range kept {
		for n := range c.List {
			c.List[n].TS = int64(i)
		}
	}
	for i, c := range kept {
		if slices.ContainsFunc(c.List, func(p api.Stamped) bool { return p.TS != int64(i) }) {
			t.Errorf("the chunk %d shares its list", i)
		}
	}
}

// R3: Cut may stop at any point, be done again, and go within itself.
func TestCutMayStop(t *testing.T) {
	seq := ckpt.Cut(rising(60))
	for stop := 1; stop <= 4; stop++ {
		n := 0
		for c := range seq {
			if inner := slices.Collect(seq); len(inner) != 4 || c.Number != n {
				t.Fatalf("%v, %d chunks within", c, len(inner))
			}
			if n++; n == stop {
				break
			}
		}
		if n != stop {
			t.Errorf("%d chunks up to where it stopped", n)
		}
	}
}

// R4: empty and nil lists are the same.
func TestEmptyAndNilLists(t *testing.T) {
	a := api.Area{From: 0, Chunks: 2}
	var disks []*disk.Disk
	for _, l := range [][]api.Stamped{nil, {}} {
		d := newDisk(t, 24)
		want(t, "Write", ckpt.Write(d, a, api.Chunk{List: l}), api.OK)
		want(t, "Write", ckpt.Write(d, a, api.Chunk{Number: 1, List: l, Last: true}), api.OK)
		wantLoad(t, "no pairs", d, a, 2)
		w := newWriter(t, d, a)
		want(t, "Put", w.Put(l...), api.OK)
		wantDone(t, w, 1)
		disks = append(disks, d)
		got := slices.Collect(ckpt.Cut(l))
		if len(got) != 1 || !record.SameChunk(got[0], api.Chunk{Last: true}) {
			t.Errorf("Cut of none: %v", got)
		}
	}
	if !disk.Same(disks[0], disks[1]) {
		t.Error("other sectors")
	}
}

// R6: the same calls answer the same; writers of one disk know nothing of each other.
func TestSameAgain(t *testing.T) {
	a, b := api.Area{From: 1, Chunks: 3}, api.Area{From: 40, Chunks: 3}
	var first *disk.Disk
	for i := range 5 {
		d := newDisk(t, 80)
		v, w := newWriter(t, d, a), newWriter(t, d, b)
		for n := range 40 {
			want(t, "Put", v.Put(from(n, 1)...), api.OK)
			want(t, "Put", w.Put(from(100+n, 1)...), api.OK)
		}
		wantDone(t, w, 3)
		wantWritten(t, v, 2)
		wantDone(t, v, 3)
		wantLoad(t, "one", d, a, 3, from(0, 40)...)
		wantLoad(t, "the other", d, b, 3, from(100, 40)...)
		if i == 0 {
			first = d
		} else if !disk.Same(d, first) || d.Calls() != first.Calls() {
			t.Fatal("other sectors the second time")
		}
	}
}

// The bound: the greatest area, put at once and one by one, and lists that are much longer.
func TestGreatAreas(t *testing.T) {
	a := api.Area{From: 4, Chunks: 1365}
	d := newDisk(t, 16384)
	l := rising(1365 * 16)
	for i := range l {
		l[i].Value, l[i].TS = longValue, maxTS
	}
	w := newWriter(t, d, a)
	for _, p := range l {
		want(t, "Put", w.Put(p), api.OK)
	}
	wantDone(t, w, 1365)
	wantLoad(t, "one by one", d, a, 1365, l...)
	other := newDisk(t, 16384)
	pieces(t, other, a, l)
	if !disk.Same(d, other) {
		t.Error("other sectors at once")
	}
	w = newWriter(t, d, a)
	want(t, "a chunk too many", w.Put(slices.Concat(l, from(1<<20, 17))...), api.ErrArea)
	wantWritten(t, w, 1365)
	refuseDone(t, "more than a chunk is gathered", w, api.ErrField)
}

func TestLongLists(t *testing.T) {
	const many = 500000
	l := rising(many)
	n := 0
	for c := range ckpt.Cut(l) {
		n += len(c.List)
	}
	if n != many {
		t.Errorf("%d pairs in the chunks", n)
	}
	d := newDisk(t, 24)
	w := newWriter(t, d, api.Area{Chunks: 2})
	want(t, "Put", w.Put(l...), api.ErrArea)
	for range 10 {
		want(t, "Put", w.Put(), api.ErrArea)
		want(t, "Put", w.Put(l[0]), api.ErrArea)
		refuseDone(t, "many", w, api.ErrField)
	}
	want(t, "Write", ckpt.Write(d, api.Area{Chunks: 2}, api.Chunk{List: l}), api.ErrField)
	long := string(bytes.Repeat([]byte("k"), 1<<24))
	want(t, "Write", ckpt.Write(d, api.Area{Chunks: 2}, api.Chunk{List: []api.Stamped{pair(long, long, 1)}}), api.ErrKey)
	want(t, "Write", ckpt.Write(d, api.Area{Chunks: 2}, api.Chunk{List: []api.Stamped{pair("a", long, 1)}}), api.ErrValue)
}
