package ckpt_test

import (
	"math/rand/v2"
	"slices"
	"testing"

	"cresset/api"
	"cresset/ckpt"
	"cresset/disk"
)

// pieces puts pairs in pieces that begin at these places, and is done.
func pieces(t *testing.T, d *disk.Disk, a api.Area, l []api.Stamped, cuts ...int) {
	t.Helper()
	w := newWriter(t, d, a)
	at := 0
	for _, upTo := range append(cuts, len(l)) {
		want(t, "Put", w.Put(l[at:upTo]...), api.OK)
		at = upTo
	}
	wantDone(t, w, max(1, (len(l)+15)/16))
}

// P19.5: all ways to put up to 50 pairs in three pieces.
func TestAnyPiecesMakeTheSameSectors(t *testing.T) {
	a := api.Area{From: 2, Chunks: 4}
	for _, many := range []int{0, 1, 2, 15, 16, 17, 18, 31, 32, 33, 34, 48, 49, 50} {
		l := rising(many)
		once := newDisk(t, 60)
		pieces(t, once, a, l)
		for x := range many + 1 {
			for y := x; y <= many; y++ {
				d := newDisk(t, 60)
				pieces(t, d, a, l, x, y)
				if !disk.Same(d, once) || d.Calls() != once.Calls() {
					t.Fatalf("%d pairs cut at %d and %d: other sectors", many, x, y)
				}
			}
		}
	}
}

// P19.5: long lists of wild pairs, in random pieces, over what an elder checkpoint has left.
func TestAnyPiecesOfWildPairs(t *testing.T) {
	p := plenty{rand.New(rand.NewPCG(19, 3))}
	a := api.Area{From: 5, Chunks: 30}
	for range 60 {
		elder := newDisk(t, 400)
		pieces(t, elder, a, p.rightPairs(p.IntN(480)))
		l := p.rightPairs(p.IntN(480))
		once := elder.Clone()
		pieces(t, once, a, l)
		for range 4 {
			d := elder.Clone()
			var cuts []int
			for range p.IntN(40) {
				cuts = append(cuts, p.IntN(len(l)+1))
			}
			slices.Sort(cuts)
			pieces(t, d, a, l, cuts...)
			if !disk.Same(d, once) {
				t.Fatalf("%d pairs cut at %v: other sectors", len(l), cuts)
			}
		}
	}
}

// rightPairs are pairs whose keys rise and that may be.
func (p plenty) rightPairs(n int) []api.Stamped {
	var l []api.Stamped
	for i := range n {
		l = append(l, pair(name(i)+p.text(57), p.text(256), 1+p.Int64N(maxTS)))
	}
	return l
}

// P19.4: what was put, and done, is loaded, behind any crash after it, too: whatever was written elsewhere since, and whichever of it stays.
func TestWhatWasDoneIsLoaded(t *testing.T) {
	p := plenty{rand.New(rand.NewPCG(19, 4))}
	a, other := api.Area{From: 3, Chunks: 20}, api.Area{From: 243, Chunks: 20}
	for many := 0; many <= 320; many += 1 + p.IntN(4) {
		d := newDisk(t, 500)
		l := p.rightPairs(many)
		pieces(t, d, a, l, many/3, many/2)
		n := max(1, (many+15)/16)
		wantLoad(t, "what was done", d, a, n, l...)
		for range 3 {
			w := newWriter(t, d, other)
			want(t, "SetFuse", d.SetFuse(p.IntN(30), p.keep()...), api.OK)
			w.Put(p.rightPairs(p.IntN(100))...)
			w.Done()
			if !d.Down() {
				wantLoad(t, "ahead of the crash", d, a, n, l...)
				want(t, "Crash", d.Crash(p.keep()...), api.OK)
			}
			refuseLoad(t, "without power", d, a, n, api.ErrDown)
			want(t, "Restart", d.Restart(), api.OK)
			wantLoad(t, "behind the crash", d, a, n, l...)
		}
	}
}

// P19.4: a checkpoint of which the power has left a part is one as a whole, or none; each choice of what stays.
func TestWhatWasNotDone(t *testing.T) {
	a := api.Area{From: 1, Chunks: 4}
	l := rising(40)
	for fuse := 1; fuse <= 4; fuse++ {
		for choice := range 8 {
			d := newDisk(t, 50)
			pieces(t, d, a, from(1000, 35)) // an elder one of as many chunks
			w := newWriter(t, d, a)
			keep := []bool{choice&1 > 0, choice&2 > 0, choice&4 > 0}
			want(t, "SetFuse", d.SetFuse(fuse, keep...), api.OK)
			w.Put(l...)
			refuseDone(t, "the power", w, map[bool]api.Errno{true: api.ErrDown, false: api.ErrField}[fuse > 2])
			want(t, "Restart", d.Restart(), api.OK)
			for n := range 3 {
				newer := keep[n] && n < fuse
				wanted := api.Chunk{Number: n, List: from(1000, 35)[n*16 : min(n*16+16, 35)], Last: n == 2}
				if newer {
					wanted.List = l[n*16 : min(n*16+16, 40)]
				}
				wantChunk(t, d, a, n, wanted)
			}
			e := api.ErrCkpt
			got, ge := ckpt.Load(d, a, 3)
			rises := slices.IsSortedFunc(got, func(x, y api.Stamped) int { return int(x.Key[0]) - int(y.Key[0]) })
			if ge != api.OK && ge != e || !rises {
				t.Fatalf("Load: %v, %d", got, ge)
			}
		}
	}
}

// Each chunk of a checkpoint that is spoilt, and each other one of a newer checkpoint: Load tells no pairs that are not the checkpoint's.
func TestSpoiltChunks(t *testing.T) {
	a := api.Area{From: 0, Chunks: 5}
	l := rising(70)
	for n := range 5 {
		d := newDisk(t, 60)
		pieces(t, d, a, l)
		b, e := d.Read(12 * n)
		want(t, "Read", e, api.OK)
		b[20] ^= 4
		want(t, "Write", d.Write(12*n, b...), api.OK)
		refuseLoad(t, "a spoilt chunk", d, a, 5, api.ErrCkpt)
		for other := range 5 {
			if other != n {
				wantChunk(t, d, a, other, api.Chunk{Number: other, List: l[other*16 : min(other*16+16, 70)], Last: other == 4})
			}
		}
		refuseRead(t, "a spoilt chunk", d, a, n, api.ErrCkpt)
	}
}
