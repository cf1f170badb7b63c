package disk_test

import (
	"bytes"
	"math"
	"slices"
	"testing"

	"cresset/api"
	"cresset/disk"
)

// move is a write of a sector with a number's bytes, or (at below nought) a barrier.
type move struct {
	at int
	n  byte
}

func (m move) do(d *disk.Disk) api.Errno {
	if m.at < 0 {
		return d.Barrier()
	}
	return d.Write(m.at, sector(m.n)...)
}

// moves are such that a sector is written once, twice, not at all, between two barriers and across one.
func moves() []move {
	return []move{{2, 1}, {0, 2}, {2, 3}, {-1, 0}, {1, 4}, {2, 5}, {1, 6}, {-1, 0}, {-1, 0}, {0, 7}, {1, 8}, {2, 9}}
}

// choices are all lists of so many choices.
func choices(many int) [][]bool {
	l := [][]bool{nil}
	for range many {
		var longer [][]bool
		for _, c := range l {
			longer = append(longer, append(slices.Clone(c), false), append(slices.Clone(c), true))
		}
		l = longer
	}
	return l
}

// P2.2 and P2.5: of the dirty sectors, keep chooses one by one.
func TestCrashKeeps(t *testing.T) {
	for _, keep := range choices(3) {
		d := newDisk(t, 6)
		for _, m := range []move{{1, 1}, {3, 2}, {4, 3}, {-1, 0}, {5, 6}, {1, 4}, {3, 5}} {
			want(t, "a move", m.do(d), api.OK)
		}
		want(t, "Crash", d.Crash(keep...), api.OK)
		wantDirty(t, d)
		if !d.Down() {
			t.Fatal("the power is there behind a crash")
		}
		want(t, "Restart", d.Restart(), api.OK)
		wantDirty(t, d)
		wanted := []byte{0, 1, 0, 2, 3, 0}
		for place, c := range []struct {
			at int
			n  byte
		}{{1, 4}, {3, 5}, {5, 6}} {
			if keep[place] {
				wanted[c.at] = c.n
			}
		}
		for at, n := range wanted {
			wantSector(t, d, at, sector(n))
		}
	}
}

// P2.2: a keep that has fewer places than there are dirty sectors, or more.
func TestCrashKeepOfOtherLengths(t *testing.T) {
	for _, c := range []struct {
		keep   []bool
		wanted []byte
	}{
		{nil, []byte{0, 0, 0}},
		{[]bool{}, []byte{0, 0, 0}},
		{[]bool{true}, []byte{1, 0, 0}},
		{[]bool{false}, []byte{0, 0, 0}},
		{[]bool{true, true}, []byte{1, 2, 0}},
		{[]bool{false, true, true, true, true}, []byte{0, 2, 3}},
	} {
		d := newDisk(t, 3)
		for at := range 3 {
			d.Write(at, sector(byte(at+1))...)
		}
		want(t, "Crash", d.Crash(c.keep...), api.OK)
		d.Restart()
		for at, n := range c.wanted {
			wantSector(t, d, at, sector(n))
		}
	}
}

// P2.2: what a crash has left is sure.
func TestCrashLeavesSure(t *testing.T) {
	d := newDisk(t, 2)
	d.Write(0, sector(1)...)
	d.Write(1, sector(2)...)
	d.Crash(true)
	d.Restart()
	d.Write(0, sector(3)...)
	d.Write(1, sector(4)...)
	d.Crash()
	d.Restart()
	wantSector(t, d, 0, sector(1))
	wantSector(t, d, 1, sector(0))
	want(t, "Crash of a clean disk", d.Crash(true, true), api.OK)
	d.Restart()
	wantSector(t, d, 0, sector(1))
	wantSector(t, d, 1, sector(0))
}

// P2.1 and P2.2: while the power is away every call of the sectors is refused, whatever else is wrong with it.
func TestDown(t *testing.T) {
	d := newDisk(t, 2)
	d.Write(0, sector(1)...)
	want(t, "Crash", d.Crash(true), api.OK)
	for _, at := range []int{0, 1, -1, 2} {
		if b, e := d.Read(at); b != nil || e != api.ErrDown {
			t.Errorf("Read(%d) = %v, %d", at, b, e)
		}
		want(t, "Write", d.Write(at, sector(2)...), api.ErrDown)
		want(t, "Write of too little", d.Write(at, 2), api.ErrDown)
	}
	want(t, "Barrier", d.Barrier(), api.ErrDown)
	want(t, "Crash", d.Crash(false), api.ErrDown)
	wantDirty(t, d)
	if !d.Down() || d.Sectors() != 2 {
		t.Errorf("down %v, %d sectors", d.Down(), d.Sectors())
	}
	want(t, "Restart", d.Restart(), api.OK)
	if d.Down() {
		t.Error("the power is away behind a restart")
	}
	wantSector(t, d, 0, sector(1))
	wantSector(t, d, 1, sector(0))
}

// P2.2: a restart of a disk that is up leaves all as it is, the fuse too.
func TestRestartOfADiskThatIsUp(t *testing.T) {
	d := newDisk(t, 2)
	d.Write(1, sector(1)...)
	d.SetFuse(2, true)
	want(t, "Restart", d.Restart(), api.OK)
	wantDirty(t, d, 1)
	wantSector(t, d, 1, sector(1))
	want(t, "the first call", d.Barrier(), api.OK)
	want(t, "the second call", d.Barrier(), api.ErrDown)
}

// P2.2: what SetFuse takes.
func TestSetFuseArguments(t *testing.T) {
	d := newDisk(t, 1)
	want(t, "SetFuse(2)", d.SetFuse(2), api.OK)
	want(t, "SetFuse(-1)", d.SetFuse(-1, true), api.ErrArg)
	want(t, "SetFuse(least)", d.SetFuse(math.MinInt), api.ErrArg)
	want(t, "the first call", d.Barrier(), api.OK)
	want(t, "the second call: a refused SetFuse changes nothing", d.Barrier(), api.ErrDown)
	d.Restart()
	want(t, "SetFuse(1)", d.SetFuse(1), api.OK)
	want(t, "SetFuse(0)", d.SetFuse(0, true, true), api.OK)
	want(t, "a call without a fuse", d.Barrier(), api.OK)
	want(t, "SetFuse(greatest)", d.SetFuse(math.MaxInt), api.OK)
	for range 50 {
		want(t, "a call far ahead of the fuse", d.Write(0, sector(1)...), api.OK)
	}
}

// P2.2: the newest fuse counts, from where it was set on.
func TestSetFuseAnew(t *testing.T) {
	d := newDisk(t, 1)
	d.SetFuse(2, true)
	want(t, "Barrier", d.Barrier(), api.OK)
	d.SetFuse(2)
	want(t, "Write", d.Write(0, sector(1)...), api.OK)
	want(t, "Write at the fuse", d.Write(0, sector(2)...), api.ErrDown)
	d.Restart()
	wantSector(t, d, 0, sector(0))
}

// P2.2: calls that are refused do not come nearer to the fuse, nor do other calls.
func TestFusePassesOverRefusedCalls(t *testing.T) {
	d := newDisk(t, 1)
	d.SetFuse(2, true)
	for range 3 {
		d.Write(1, sector(1)...)
		d.Write(-1, sector(1)...)
		d.Write(0, 1, 2, 3)
		d.Read(0)
		d.Restart()
		d.SetFuse(-1)
		d.Clone().Barrier()
	}
	want(t, "the first call", d.Write(0, sector(1)...), api.OK)
	want(t, "the second call", d.Write(0, sector(2)...), api.ErrDown)
	d.Restart()
	wantSector(t, d, 0, sector(2))
}

// P2.2: a fuse is set while the power is away, and waits for it.
func TestFuseSetWhileDown(t *testing.T) {
	d := newDisk(t, 1)
	d.Crash()
	want(t, "SetFuse", d.SetFuse(2, true), api.OK)
	want(t, "a refused call", d.Barrier(), api.ErrDown)
	want(t, "a refused call", d.Write(0, sector(9)...), api.ErrDown)
	want(t, "a refused crash, which leaves the fuse", d.Crash(), api.ErrDown)
	want(t, "SetFuse(-1)", d.SetFuse(-1), api.ErrArg)
	d.Restart()
	want(t, "the first call", d.Write(0, sector(1)...), api.OK)
	want(t, "the second call", d.Barrier(), api.ErrDown)
	d.Restart()
	wantSector(t, d, 0, sector(1))
}

// P2.2: behind a crash, the fuse's own too, no fuse is set.
func TestCrashTakesTheFuse(t *testing.T) {
	d := newDisk(t, 1)
	d.SetFuse(1, true)
	d.Crash()
	d.Restart()
	want(t, "a call behind a crash", d.Barrier(), api.OK)
	d.SetFuse(1)
	want(t, "a call at the fuse", d.Barrier(), api.ErrDown)
	d.Restart()
	for range 5 {
		want(t, "a call behind the fuse", d.Barrier(), api.OK)
	}
}

// P2.2: a barrier that meets the fuse makes nothing sure.
func TestBarrierAtTheFuse(t *testing.T) {
	d := newDisk(t, 2)
	d.Write(0, sector(1)...)
	d.Write(1, sector(2)...)
	d.SetFuse(1, false, true)
	want(t, "Barrier", d.Barrier(), api.ErrDown)
	wantDirty(t, d)
	d.Restart()
	wantSector(t, d, 0, sector(0))
	wantSector(t, d, 1, sector(2))
}

// P2.2: a write that meets the fuse is done, and has a place in keep as all the dirty ones have.
func TestWriteAtTheFuse(t *testing.T) {
	for _, keep := range choices(2) {
		d := newDisk(t, 3)
		d.Write(2, sector(1)...)
		d.SetFuse(1, keep...)
		want(t, "Write", d.Write(0, sector(2)...), api.ErrDown)
		d.Restart()
		wanted := []byte{0, 0, 0}
		if keep[0] {
			wanted[0] = 2
		}
		if keep[1] {
			wanted[2] = 1
		}
		for at, n := range wanted {
			wantSector(t, d, at, sector(n))
		}
	}
}

// P2.4: what a barrier has made sure, and was not written since, is there behind any crash.
func TestABarrierHolds(t *testing.T) {
	list := moves()
	for done := range len(list) + 1 {
		d := newDisk(t, 3)
		held := map[int]byte{0: 0, 1: 0, 2: 0}
		written := map[int]byte{}
		for _, m := range list[:done] {
			want(t, "a move", m.do(d), api.OK)
			if m.at >= 0 {
				written[m.at] = m.n
				delete(held, m.at)
				continue
			}
			for at, n := range written {
				held[at] = n
			}
			clear(written)
		}
		for _, keep := range choices(3) {
			c := d.Clone()
			want(t, "Crash", c.Crash(keep...), api.OK)
			c.Restart()
			for at, n := range held {
				wantSector(t, c, at, sector(n))
			}
		}
	}
}

// P2.5: each sector has what was sure or what was written last, and each choice among them can be had.
func TestOldOrNew(t *testing.T) {
	list := moves()
	for done := range len(list) + 1 {
		d := newDisk(t, 3)
		p := newPaper(3)
		for _, m := range list[:done] {
			m.do(d)
			if m.at < 0 {
				p.barrier()
			} else {
				p.write(m.at, sector(m.n))
			}
		}
		seen := map[string]int{}
		dirty := len(p.dirtyList())
		for _, keep := range choices(dirty) {
			c := d.Clone()
			c.Crash(keep...)
			whole := contents(t, c)
			for at, b := range whole {
				if !bytes.Equal(b, p.sure[at]) && !bytes.Equal(b, p.last[at]) {
					t.Fatalf("sector %d has neither the old nor the new bytes: %v", at, b)
				}
			}
			seen[string(bytes.Join(whole, nil))]++
		}
		if len(seen) != 1<<dirty {
			t.Fatalf("behind %d moves %d choices can be had, want %d", done, len(seen), 1<<dirty)
		}
	}
}

// P2.6: a fuse at the n-th call leaves what n - 1 calls, the n-th one if it is a Write, and then a Crash leave.
func TestAFuseIsACrash(t *testing.T) {
	list := moves()
	for n := 1; n <= len(list); n++ {
		for _, keep := range choices(3) {
			d, c := newDisk(t, 3), newDisk(t, 3)
			want(t, "SetFuse", d.SetFuse(n, keep...), api.OK)
			for i, m := range list[:n] {
				wanted := api.OK
				if i == n-1 {
					wanted = api.ErrDown
				}
				want(t, "a move", m.do(d), wanted)
				if i < n-1 || m.at >= 0 {
					m.do(c)
				}
			}
			c.Crash(keep...)
			if !d.Down() || !disk.Same(d, c) || d.Calls() != int64(n) {
				t.Fatalf("a fuse at %d with %v: down %v, %d calls", n, keep, d.Down(), d.Calls())
			}
			d.Restart()
			c.Restart()
			wantDirty(t, d)
			d.Write(0, sector(44)...)
			d.Crash()
			if !disk.Same(d, c) {
				t.Fatalf("what a fuse at %d left was not sure", n)
			}
		}
	}
}

// P2.6: a fuse beyond the calls that come is not met.
func TestAFuseThatIsNotMet(t *testing.T) {
	d, c := newDisk(t, 3), newDisk(t, 3)
	list := moves()
	d.SetFuse(len(list) + 1)
	for _, m := range list {
		want(t, "a move", m.do(d), api.OK)
		m.do(c)
	}
	if d.Down() || !disk.Same(d, c) {
		t.Error("a fuse that is not met changes something")
	}
	want(t, "the call at the fuse", d.Barrier(), api.ErrDown)
}
