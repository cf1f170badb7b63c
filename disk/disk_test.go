package disk_test

import (
	"bytes"
	"math"
	"slices"
	"testing"

	"cresset/api"
	"cresset/disk"
)

// sector is 512 bytes that differ from those of another number at both ends and between.
func sector(n byte) []byte {
	b := bytes.Repeat([]byte{n}, 512)
	if n != 0 {
		b[100], b[511] = n+1, n+2
	}
	return b
}

func newDisk(t *testing.T, sectors int) *disk.Disk {
	t.Helper()
	d, e := disk.New(sectors)
	if e != api.OK || d == nil {
		t.Fatalf("New(%d) = %v, %d", sectors, d, e)
	}
	return d
}

// want says which call answered otherwise than it should.
func want(t *testing.T, what string, got, wanted api.Errno) {
	t.Helper()
	if got != wanted {
		t.Fatalf("%s answered %d, want %d", what, got, wanted)
	}
}

func wantSector(t *testing.T, d *disk.Disk, at int, wanted []byte) {
	t.Helper()
	if b, e := d.Read(at); e != api.OK || !bytes.Equal(b, wanted) {
		t.Fatalf("sector %d has %v (%d), want %v", at, b, e, wanted)
	}
}

func wantDirty(t *testing.T, d *disk.Disk, wanted ...int) {
	t.Helper()
	if got := slices.Collect(d.Dirty()); !slices.Equal(got, wanted) {
		t.Fatalf("dirty are %v, want %v", got, wanted)
	}
}

// P2.1: the edges of how many sectors there may be.
func TestNewLimits(t *testing.T) {
	for _, n := range []int{0, -1, math.MinInt, 16385, math.MaxInt} {
		if d, e := disk.New(n); d != nil || e != api.ErrArg {
			t.Errorf("New(%d) = %v, %d", n, d, e)
		}
	}
	for _, n := range []int{1, 2, 16383, 16384} {
		d := newDisk(t, n)
		if d.Sectors() != n || d.Down() || d.Calls() != 0 {
			t.Errorf("New(%d): %d sectors, down %v, %d calls", n, d.Sectors(), d.Down(), d.Calls())
		}
		wantDirty(t, d)
		for _, at := range []int{0, n / 2, n - 1} {
			wantSector(t, d, at, sector(0))
		}
	}
}

// P2.1: a new disk has no fuse.
func TestNewHasNoFuse(t *testing.T) {
	d := newDisk(t, 1)
	for range 100 {
		want(t, "Write", d.Write(0, sector(1)...), api.OK)
		want(t, "Barrier", d.Barrier(), api.OK)
	}
}

// P2.1: Read and Write at the first and the last sector, and beside them.
func TestReadAndWriteAtTheEnds(t *testing.T) {
	d := newDisk(t, 5)
	for _, at := range []int{-1, 5, 6, math.MinInt, math.MaxInt} {
		if b, e := d.Read(at); b != nil || e != api.ErrSector {
			t.Errorf("Read(%d) = %v, %d", at, b, e)
		}
		want(t, "Write", d.Write(at, sector(1)...), api.ErrSector)
		want(t, "Write of too little", d.Write(at, 1, 2), api.ErrSector)
	}
	wantDirty(t, d)
	for _, at := range []int{4, 0} {
		want(t, "Write", d.Write(at, sector(byte(at+1))...), api.OK)
	}
	wantSector(t, d, 0, sector(1))
	wantSector(t, d, 4, sector(5))
	for at := 1; at < 4; at++ {
		wantSector(t, d, at, sector(0))
	}
	wantDirty(t, d, 0, 4)
}

// P2.1: a sector is written whole, or not at all.
func TestWriteLengths(t *testing.T) {
	d := newDisk(t, 1)
	for _, n := range []int{0, 1, 511, 513, 1024, 5000} {
		want(t, "Write", d.Write(0, bytes.Repeat([]byte{9}, n)...), api.ErrArg)
		wantSector(t, d, 0, sector(0))
		wantDirty(t, d)
	}
	want(t, "Write", d.Write(0), api.ErrArg)
	want(t, "Write", d.Write(0, sector(3)...), api.OK)
	wantSector(t, d, 0, sector(3))
}

// P2.1: what was written last is read, sure or not; a write of the same bytes makes dirty too.
func TestWriteMakesDirty(t *testing.T) {
	d := newDisk(t, 3)
	want(t, "Write", d.Write(1, sector(0)...), api.OK)
	wantDirty(t, d, 1)
	want(t, "Write", d.Write(1, sector(7)...), api.OK)
	want(t, "Write", d.Write(1, sector(8)...), api.OK)
	wantDirty(t, d, 1)
	wantSector(t, d, 1, sector(8))
	want(t, "Barrier", d.Barrier(), api.OK)
	wantDirty(t, d)
	wantSector(t, d, 1, sector(8))
	want(t, "Write", d.Write(1, sector(8)...), api.OK)
	wantDirty(t, d, 1)
}

// P2.1: the dirty sectors rise, whatever the order in which they were written.
func TestDirtyRises(t *testing.T) {
	d := newDisk(t, 200)
	var wanted []int
	for i := range 200 {
		if at := i * 77 % 200; at%3 != 0 {
			want(t, "Write", d.Write(at, sector(byte(at))...), api.OK)
			wanted = append(wanted, at)
		}
	}
	slices.Sort(wanted)
	wantDirty(t, d, wanted...)
}

// P2.1: writes and barriers count, those that met the fuse too; refused ones and all other calls do not.
func TestCalls(t *testing.T) {
	d := newDisk(t, 2)
	calls := func(wanted int64) {
		t.Helper()
		if got := d.Calls(); got != wanted {
			t.Fatalf("%d calls, want %d", got, wanted)
		}
	}
	calls(0)
	d.Write(0, sector(1)...)
	calls(1)
	d.Barrier()
	d.Barrier()
	calls(3)
	d.Write(2, sector(1)...)
	d.Write(-1, sector(1)...)
	d.Write(0, 1)
	d.Read(0)
	d.Read(9)
	d.SetFuse(5)
	d.SetFuse(-5)
	d.Crash()
	calls(3)
	d.Write(0, sector(1)...)
	d.Barrier()
	d.Crash()
	d.Restart()
	calls(3)
	d.SetFuse(1)
	want(t, "Write at the fuse", d.Write(0, sector(1)...), api.ErrDown)
	calls(4)
	d.Restart()
	d.SetFuse(1)
	want(t, "Barrier at the fuse", d.Barrier(), api.ErrDown)
	calls(5)
	d.Clone().Barrier()
	calls(5)
}

// P2.3: a clone has all of the same.
func TestCloneHasTheSame(t *testing.T) {
	d := newDisk(t, 4)
	d.Write(1, sector(1)...)
	d.Barrier()
	d.Write(1, sector(2)...)
	d.Write(3, sector(3)...)
	d.SetFuse(2, false, true)
	c := d.Clone()
	if c.Sectors() != 4 || c.Calls() != 4 || c.Down() || !disk.Same(c, d) {
		t.Fatalf("the clone has %d sectors, %d calls, down %v", c.Sectors(), c.Calls(), c.Down())
	}
	wantDirty(t, c, 1, 3)
	want(t, "the clone's first call", c.Write(0, sector(4)...), api.OK)
	want(t, "the clone's second call", c.Barrier(), api.ErrDown)
	if c.Calls() != 6 || d.Calls() != 4 || d.Down() {
		t.Fatalf("%d and %d calls, down %v", c.Calls(), d.Calls(), d.Down())
	}
	if !c.Clone().Down() {
		t.Error("a clone of a disk whose power is away is up")
	}
	c.Restart()
	for at, n := range []byte{0, 2, 0, 0} {
		wantSector(t, c, at, sector(n))
	}
}

// P2.3: what is done to one of the two is not seen at the other one.
func TestCloneGoesItsOwnWay(t *testing.T) {
	for _, turn := range []bool{false, true} {
		d := newDisk(t, 3)
		d.Write(0, sector(1)...)
		d.Barrier()
		d.Write(1, sector(2)...)
		c := d.Clone()
		if turn {
			c, d = d, c
		}
		c.Write(1, sector(5)...)
		c.Write(2, sector(6)...)
		wantDirty(t, d, 1)
		c.Barrier()
		wantDirty(t, d, 1)
		c.Write(0, sector(7)...)
		c.SetFuse(1)
		c.Barrier()
		if !c.Down() || d.Down() || disk.Same(c, d) {
			t.Fatal("the power is not the one's own")
		}
		wantSector(t, d, 0, sector(1))
		wantSector(t, d, 1, sector(2))
		wantSector(t, d, 2, sector(0))
		want(t, "Crash", d.Crash(), api.OK)
		d.Restart()
		wantSector(t, d, 1, sector(0))
	}
}

// P2.3: Same asks for the bytes that were written last, and for nothing else.
func TestSame(t *testing.T) {
	a, b := newDisk(t, 3), newDisk(t, 3)
	same := func(wanted bool) {
		t.Helper()
		if disk.Same(a, b) != wanted || disk.Same(b, a) != wanted {
			t.Fatalf("Same is not %v", wanted)
		}
	}
	same(true)
	a.Write(2, sector(1)...)
	same(false)
	b.Write(2, sector(1)...)
	b.Barrier()
	same(true)
	b.SetFuse(9)
	b.Write(0, sector(0)...)
	same(true)
	a.Crash(true)
	same(true)
	b.Crash()
	same(true)
	a.Restart()
	a.Write(0, sector(4)...)
	same(false)
	a.Crash()
	same(true)
	if disk.Same(newDisk(t, 3), newDisk(t, 4)) || disk.Same(newDisk(t, 4), newDisk(t, 3)) {
		t.Error("disks of other sizes are the same")
	}
	if !disk.Same(a, a) {
		t.Error("a disk is not the same as itself")
	}
}

// P2.3: one byte, at either end of a sector, makes another disk.
func TestSameSeesEachByte(t *testing.T) {
	for _, place := range []int{0, 1, 255, 510, 511} {
		a, b := newDisk(t, 2), newDisk(t, 2)
		s := sector(3)
		a.Write(1, s...)
		s[place] ^= 128
		b.Write(1, s...)
		if disk.Same(a, b) {
			t.Errorf("byte %d does not count", place)
		}
		a.Barrier()
		b.Barrier()
		if disk.Same(a, b) {
			t.Errorf("byte %d does not count when it is sure", place)
		}
	}
}

// The chapter's example 1.
func TestExampleOne(t *testing.T) {
	d := newDisk(t, 4)
	want(t, "Write(2, a)", d.Write(2, sector(1)...), api.OK)
	want(t, "Barrier", d.Barrier(), api.OK)
	want(t, "Write(2, b)", d.Write(2, sector(2)...), api.OK)
	want(t, "Write(0, c)", d.Write(0, sector(3)...), api.OK)
	wantDirty(t, d, 0, 2)
	want(t, "Crash(false, true)", d.Crash(false, true), api.OK)
	want(t, "Restart", d.Restart(), api.OK)
	wantSector(t, d, 0, sector(0))
	wantSector(t, d, 2, sector(2))
}

// The chapter's example 2.
func TestExampleTwo(t *testing.T) {
	d := newDisk(t, 4)
	want(t, "SetFuse(1)", d.SetFuse(1), api.OK)
	want(t, "Write(1, a)", d.Write(1, sector(1)...), api.ErrDown)
	want(t, "Restart", d.Restart(), api.OK)
	wantSector(t, d, 1, sector(0))
	want(t, "SetFuse(2, true)", d.SetFuse(2, true), api.OK)
	want(t, "Write(1, a)", d.Write(1, sector(1)...), api.OK)
	want(t, "Barrier", d.Barrier(), api.ErrDown)
	want(t, "Restart", d.Restart(), api.OK)
	wantSector(t, d, 1, sector(1))
}
