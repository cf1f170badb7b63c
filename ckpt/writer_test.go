package ckpt_test

import (
	"slices"
	"testing"

	"cresset/api"
	"cresset/ckpt"
	"cresset/disk"
	"cresset/record"
)

func newWriter(t *testing.T, d *disk.Disk, a api.Area) *ckpt.Writer {
	t.Helper()
	w, e := ckpt.New(d, a)
	want(t, "New", e, api.OK)
	return w
}

func wantWritten(t *testing.T, w *ckpt.Writer, wanted int) {
	t.Helper()
	if got := w.Written(); got != wanted {
		t.Fatalf("%d chunks were written, want %d", got, wanted)
	}
}

func wantDone(t *testing.T, w *ckpt.Writer, wanted int) {
	t.Helper()
	n, e := w.Done()
	if n != wanted || e != api.OK {
		t.Fatalf("Done: %d, %d, want %d", n, e, wanted)
	}
	wantWritten(t, w, wanted)
}

func refuseDone(t *testing.T, what string, w *ckpt.Writer, wanted api.Errno) {
	t.Helper()
	if n, e := w.Done(); n != 0 || e != wanted {
		t.Fatalf("Done, %s: %d, %d, want error %d alone", what, n, e, wanted)
	}
}

// P19.3: errors of New; a writer that has written nothing.
func TestNew(t *testing.T) {
	d := newDisk(t, 27)
	for _, a := range []api.Area{{From: -1, Chunks: 1}, {}, {Chunks: -1}, {From: 4, Chunks: 2}, {Chunks: 3}, {From: 27, Chunks: 1}, {Chunks: 4097}} {
		if w, e := ckpt.New(d, a); w != nil || e != api.ErrArea {
			t.Errorf("New of %v: %v, %d", a, w, e)
		}
		for _, none := range []*disk.Disk{nil, new(disk.Disk)} {
			if w, e := ckpt.New(none, a); w != nil || e != api.ErrMade {
				t.Errorf("New of %v on no disk: %v, %d", a, w, e)
			}
		}
	}
	for _, none := range []*disk.Disk{nil, new(disk.Disk)} {
		if w, e := ckpt.New(none, api.Area{Chunks: 1}); w != nil || e != api.ErrMade {
			t.Errorf("New on no disk: %v, %d", w, e)
		}
	}
	want(t, "Crash", d.Crash(), api.OK)
	w := newWriter(t, d, api.Area{From: 3, Chunks: 2}) // the power is not asked for
	wantWritten(t, w, 0)
	if d.Calls() != 0 {
		t.Error("New writes")
	}
}

// P19.3: how many chunks are written behind each number of pairs, put at once or one by one, and what stands in them.
func TestPutAndDone(t *testing.T) {
	a := api.Area{From: 3, Chunks: 6}
	for many := range 97 {
		l := rising(many)
		for _, step := range []int{1, 2, 15, 16, 17, 33, 97} {
			d := newDisk(t, 80)
			w := newWriter(t, d, a)
			for at := 0; at < many; at += step {
				upTo := min(many, at+step)
				want(t, "Put", w.Put(l[at:upTo]...), api.OK)
				wantWritten(t, w, (upTo-1)/16)
			}
			if got := len(slices.Collect(d.Dirty())); got != w.Written() { // these chunks need a sector each
				t.Fatalf("%d sectors of %d chunks", got, w.Written())
			}
			for n := range w.Written() {
				wantChunk(t, d, a, n, api.Chunk{Number: n, List: l[n*16 : n*16+16]})
			}
			wanted := max(1, (many+15)/16)
			wantDone(t, w, wanted)
			if got := len(slices.Collect(d.Dirty())); got != 0 {
				t.Fatalf("%d sectors are not sure", got)
			}
			if d.Calls() != int64(wanted+1) {
				t.Fatalf("%d calls for %d chunks and a barrier", d.Calls(), wanted)
			}
			wantChunk(t, d, a, wanted-1, api.Chunk{Number: wanted - 1, List: l[(wanted-1)*16:], Last: true})
			wantLoad(t, "Load", d, a, wanted, l...)
		}
	}
}

// The chapter's examples.
func TestExamples(t *testing.T) {
	a := api.Area{From: 3, Chunks: 2}
	d := newDisk(t, 30)
	for n := 1; n <= 2; n++ {
		refuseLoad(t, "a fresh area", d, a, n, api.ErrCkpt)
	}
	w := newWriter(t, d, a)
	want(t, "Put", w.Put(rising(17)...), api.OK)
	wantDone(t, w, 2)
	wantChunk(t, d, a, 0, api.Chunk{List: rising(16)})
	wantChunk(t, d, a, 1, api.Chunk{Number: 1, List: from(16, 1), Last: true})
	d = newDisk(t, 30)
	wantDone(t, newWriter(t, d, a), 1)
	wantChunk(t, d, a, 0, api.Chunk{Last: true})
	wantLoad(t, "no pairs", d, a, 1)
}

// P19.3: behind a Done that answered OK, Put and Done answer ErrCkpt, and nothing changes.
func TestBehindDone(t *testing.T) {
	a := api.Area{From: 0, Chunks: 4}
	for _, many := range []int{0, 1, 16, 17, 40} {
		d := newDisk(t, 50)
		w := newWriter(t, d, a)
		want(t, "Put", w.Put(rising(many)...), api.OK)
		wantDone(t, w, max(1, (many+15)/16))
		was := d.Clone()
		for range 2 {
			want(t, "Put of none", w.Put(), api.ErrCkpt)
			want(t, "Put", w.Put(from(100, 40)...), api.ErrCkpt)
			want(t, "Put of what may not be", w.Put(pair("", "", 0)), api.ErrCkpt)
			refuseDone(t, "behind Done", w, api.ErrCkpt)
			wantWritten(t, w, max(1, (many+15)/16))
		}
		want(t, "Crash", d.Crash(), api.OK)
		want(t, "Put ahead of the power", w.Put(from(100, 40)...), api.ErrCkpt)
		refuseDone(t, "ahead of the power", w, api.ErrCkpt)
		want(t, "Restart", d.Restart(), api.OK)
		if !disk.Same(d, was) || d.Calls() != was.Calls() {
			t.Error("something was written")
		}
	}
}

// P19.3: an area that is full: what is gathered stays so.
func TestFullArea(t *testing.T) {
	a := api.Area{From: 2, Chunks: 2}
	d := newDisk(t, 40)
	w := newWriter(t, d, a)
	want(t, "33", w.Put(rising(33)...), api.OK)
	wantWritten(t, w, 2)
	was := d.Clone()
	refuseDone(t, "a third chunk", w, api.ErrArea)
	want(t, "16 are gathered", w.Put(from(33, 15)...), api.OK)
	refuseDone(t, "a third chunk of 16", w, api.ErrArea)
	want(t, "17", w.Put(from(48, 1)...), api.ErrArea)
	want(t, "17 still", w.Put(), api.ErrArea)
	refuseDone(t, "17 in one", w, api.ErrField)
	want(t, "one that may not be", w.Put(pair("", "", 0)), api.ErrArea)
	wantWritten(t, w, 2)
	if !disk.Same(d, was) || d.Calls() != was.Calls() {
		t.Error("something was written")
	}
}

// P19.3: a pair that may not be: its chunk, and all behind it, stay gathered.
func TestPairsThatMayNotBe(t *testing.T) {
	a := api.Area{From: 0, Chunks: 4}
	for _, c := range []struct {
		bad  api.Stamped
		want api.Errno
	}{
		{pair("", "v", 1), api.ErrKey},
		{pair(longKey+"k", "v", 1), api.ErrKey},
		{pair("z", longValue+"v", 1), api.ErrValue},
		{pair("z", "v", 0), api.ErrField},
		{pair("z", "v", maxTS+1), api.ErrField},
		{pair("0", "v", 1), api.ErrField},
	} {
		d := newDisk(t, 48)
		w := newWriter(t, d, a)
		l := append(rising(20), c.bad)
		want(t, "not looked at yet", w.Put(l...), api.OK)
		wantWritten(t, w, 1)
		refuseDone(t, "the last chunk has it", w, c.want)
		refuseDone(t, "and stays", w, c.want)
		want(t, "16 of them", w.Put(from(30, 11)...), api.OK)
		refuseDone(t, "16 of them", w, c.want)
		want(t, "17 of them", w.Put(from(50, 1)...), c.want)
		want(t, "and stay", w.Put(), c.want)
		want(t, "and more", w.Put(from(60, 40)...), c.want)
		refuseDone(t, "more than a chunk", w, api.ErrField)
		wantWritten(t, w, 1)
		if d.Calls() != 1 {
			t.Errorf("%d calls", d.Calls())
		}
		wantChunk(t, d, a, 0, api.Chunk{List: rising(16)})
	}
	d := newDisk(t, 48)
	w := newWriter(t, d, a)
	l := slices.Concat(rising(40), []api.Stamped{pair("0", "", 1)}, from(40, 20))
	want(t, "in the third chunk", w.Put(l...), api.ErrField)
	wantWritten(t, w, 2)
}

// P19.3: a writer looks at one chunk alone; keys that fall from chunk to chunk are Load's to find.
func TestKeysThatFallFromChunkToChunk(t *testing.T) {
	d, a := newDisk(t, 48), api.Area{From: 0, Chunks: 4}
	w := newWriter(t, d, a)
	want(t, "Put", w.Put(slices.Concat(from(100, 16), from(50, 16), from(200, 3))...), api.OK)
	wantDone(t, w, 3)
	for n, at := range []int{100, 50} {
		wantChunk(t, d, a, n, api.Chunk{Number: n, List: from(at, 16)})
	}
	refuseLoad(t, "keys that fall from chunk to chunk", d, a, 3, api.ErrCkpt)
}

// P19.3: the power goes at each call of a Put and a Done; the writer goes on behind it.
func TestThePowerGoes(t *testing.T) {
	a := api.Area{From: 1, Chunks: 5}
	for fuse := 1; fuse <= 4; fuse++ {
		for _, keep := range []bool{false, true} {
			d := newDisk(t, 70)
			w := newWriter(t, d, a)
			want(t, "SetFuse", d.SetFuse(fuse, keep, keep, keep, keep), api.OK)
			e := w.Put(rising(35)...)
			if fuse <= 2 {
				want(t, "Put", e, api.ErrDown)
				wantWritten(t, w, fuse-1) // the write that met the fuse answered an error
				want(t, "Put without power", w.Put(), api.ErrDown)
				refuseDone(t, "more than a chunk is gathered, ahead of the power", w, api.ErrField)
				want(t, "Restart", d.Restart(), api.OK)
				want(t, "Put again", w.Put(), api.OK)
				wantWritten(t, w, 2)
				wantChunk(t, d, a, 1, api.Chunk{Number: 1, List: from(16, 16)})
				wantDone(t, w, 3)
				if fuse == 1 {
					wantLoad(t, "behind it", d, a, 3, rising(35)...)
				}
				continue
			}
			want(t, "Put", e, api.OK)
			refuseDone(t, "the fuse", w, api.ErrDown)
			wantWritten(t, w, fuse-1) // of Done, the write is done once the barrier is asked for
			want(t, "Put without power", w.Put(), api.OK)
			refuseDone(t, "without power", w, api.ErrDown)
			wantWritten(t, w, fuse-1)
			want(t, "Restart", d.Restart(), api.OK)
			wantDone(t, w, fuse)
			if fuse == 3 {
				wantChunk(t, d, a, 2, api.Chunk{Number: 2, List: from(32, 3), Last: true})
			} else {
				wantChunk(t, d, a, 3, api.Chunk{Number: 3, Last: true}) // nothing was gathered any more
			}
			want(t, "Put behind it", w.Put(), api.ErrCkpt)
		}
	}
}

// P19.3: behind a Done whose barrier failed, more may be put, with the next numbers.
func TestPutBehindABarrierThatFailed(t *testing.T) {
	a := api.Area{From: 0, Chunks: 4}
	d := newDisk(t, 50)
	w := newWriter(t, d, a)
	want(t, "Put", w.Put(rising(3)...), api.OK)
	want(t, "SetFuse", d.SetFuse(2, true), api.OK)
	refuseDone(t, "the barrier", w, api.ErrDown)
	want(t, "Restart", d.Restart(), api.OK)
	wantWritten(t, w, 1)
	want(t, "Put", w.Put(from(3, 17)...), api.OK)
	wantWritten(t, w, 2)
	wantDone(t, w, 3)
	wantChunk(t, d, a, 0, api.Chunk{List: rising(3), Last: true})
	wantChunk(t, d, a, 1, api.Chunk{Number: 1, List: from(3, 16)})
	wantChunk(t, d, a, 2, api.Chunk{Number: 2, List: from(19, 1), Last: true})
	refuseLoad(t, "one but the last one is Last", d, a, 3, api.ErrCkpt)
	wantLoad(t, "the one that was kept", d, a, 1, rising(3)...)
}

// P19.3: chunks of pairs, of each length.
func TestCut(t *testing.T) {
	for many := range 130 {
		l := rising(many)
		var all []api.Stamped
		n := 0
		for c := range ckpt.Cut(l) {
			last := c.Number == max(0, (many-1)/16)
			if c.Number != n || c.Last != last || !last && len(c.List) != 16 || last && many > 0 && (len(c.List) < 1 || len(c.List) > 16) {
				t.Fatalf("of %d pairs: %v", many, c)
			}
			all = append(all, c.List...)
			n++
		}
		if n != max(1, (many+15)/16) {
			t.Fatalf("%d chunks of %d pairs", n, many)
		}
		wantPairs(t, "all of them", all, l...)
	}
	odd := []api.Stamped{pair("b", "", -1), pair("", longValue+"v", 0), pair("a", "", maxTS+1)} // pairs as they come
	for c := range ckpt.Cut(odd) {
		if !record.SameChunk(c, api.Chunk{List: odd, Last: true}) {
			t.Errorf("odd pairs: %v", c)
		}
	}
}

// Cut's chunks, written one by one, are what a writer writes.
func TestCutIsWhatAWriterWrites(t *testing.T) {
	a := api.Area{From: 7, Chunks: 7}
	for many := range 113 {
		d, other := newDisk(t, 100), newDisk(t, 100)
		for c := range ckpt.Cut(rising(many)) {
			want(t, "Write", ckpt.Write(d, a, c), api.OK)
		}
		w := newWriter(t, other, a)
		want(t, "Put", w.Put(rising(many)...), api.OK)
		_, e := w.Done()
		want(t, "Done", e, api.OK)
		if !disk.Same(d, other) {
			t.Fatalf("of %d pairs other sectors", many)
		}
	}
}
