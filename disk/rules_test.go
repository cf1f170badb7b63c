package disk_test

import (
	"bytes"
	"iter"
	"math"
	"slices"
	"testing"

	"cresset/api"
	"cresset/disk"
)

// The calls that the chapter lists keep their signatures.
var (
	_ func(int) (*disk.Disk, api.Errno)         = disk.New
	_ func(*disk.Disk) int                      = (*disk.Disk).Sectors
	_ func(*disk.Disk, int) ([]byte, api.Errno) = (*disk.Disk).Read
	_ func(*disk.Disk, int, ...byte) api.Errno  = (*disk.Disk).Write
	_ func(*disk.Disk) api.Errno                = (*disk.Disk).Barrier
	_ func(*disk.Disk) iter.Seq[int]            = (*disk.Disk).Dirty
	_ func(*disk.Disk, ...bool) api.Errno       = (*disk.Disk).Crash
	_ func(*disk.Disk, int, ...bool) api.Errno  = (*disk.Disk).SetFuse
	_ func(*disk.Disk) api.Errno                = (*disk.Disk).Restart
	_ func(*disk.Disk) bool                     = (*disk.Disk).Down
	_ func(*disk.Disk) int64                    = (*disk.Disk).Calls
	_ func(*disk.Disk) *disk.Disk               = (*disk.Disk).Clone
	_ func(*disk.Disk, *disk.Disk) bool         = disk.Same
)

func TestErrorsHaveTheirNumbers(t *testing.T) {
	got := []api.Errno{api.OK, api.ErrArg, api.ErrMade, api.ErrDown, api.ErrSector, api.MaxSectors, api.Sector}
	if wanted := []api.Errno{0, 1, 2, 6, 20, 16384, 512}; !slices.Equal(got, wanted) {
		t.Errorf("errors and limits are %v, want %v", got, wanted)
	}
}

// R3: the bytes that are written are not kept as the caller's, nor written to.
func TestWrittenBytesStayTheCallers(t *testing.T) {
	d := newDisk(t, 2)
	b := sector(5)
	d.Write(0, b...)
	if !bytes.Equal(b, sector(5)) {
		t.Fatal("what was handed in was written to")
	}
	clear(b)
	wantSector(t, d, 0, sector(5))
	d.Barrier()
	clear(b)
	wantSector(t, d, 0, sector(5))
	d.Crash()
	d.Restart()
	wantSector(t, d, 0, sector(5))
}

// R3: what was read is the caller's own, up to its capacity.
func TestReadBytesAreTheCallers(t *testing.T) {
	for _, sure := range []bool{false, true} {
		d := newDisk(t, 2)
		d.Write(0, sector(5)...)
		d.Write(1, sector(6)...)
		if sure {
			d.Barrier()
		}
		one, _ := d.Read(0)
		two, _ := d.Read(0)
		clear(one[:cap(one)])
		if !bytes.Equal(two, sector(5)) {
			t.Fatal("two answers share their bytes")
		}
		wantSector(t, d, 0, sector(5))
		wantSector(t, d, 1, sector(6))
		d.Write(0, sector(7)...)
		d.Barrier()
		if !bytes.Equal(two, sector(5)) {
			t.Fatal("a later write changed what was read")
		}
	}
}

// R3 and P2.2: the choices of a fuse are kept as they were when it was set.
func TestFuseKeepsItsChoices(t *testing.T) {
	keep := []bool{true, false}
	d := newDisk(t, 2)
	d.SetFuse(2, keep...)
	keep[0], keep[1] = false, true
	c := d.Clone()
	for _, x := range []*disk.Disk{d, c} {
		x.Write(0, sector(1)...)
		x.Write(1, sector(2)...)
		x.Restart()
		wantSector(t, x, 0, sector(1))
		wantSector(t, x, 1, sector(0))
	}
	if keep[0] || !keep[1] {
		t.Error("what was handed in was written to")
	}
}

// R3: an iterator tells what was there when it was asked for, may stop, and be done again.
func TestDirtyTellsWhatWasThere(t *testing.T) {
	d := newDisk(t, 9)
	for _, at := range []int{7, 1, 4} {
		d.Write(at, sector(1)...)
	}
	seq := d.Dirty()
	var got []int
	for at := range seq {
		got = append(got, at)
		d.Write(at+1, sector(2)...)
	}
	if !slices.Equal(got, []int{1, 4, 7}) {
		t.Errorf("written to on the way: %v", got)
	}
	for at := range seq {
		if at != 1 {
			t.Errorf("the first one is %d", at)
		}
		break
	}
	wantDirty(t, d, 1, 2, 4, 5, 7, 8)
	d.Barrier()
	d.Crash()
	if got := slices.Collect(seq); !slices.Equal(got, []int{1, 4, 7}) {
		t.Errorf("behind a barrier and a crash: %v", got)
	}
}

// R5: a disk that no call made.
func TestADiskThatNoCallMade(t *testing.T) {
	whole := newDisk(t, 1)
	for _, d := range []*disk.Disk{nil, {}} {
		for range 2 {
			for _, at := range []int{0, -1, 1, math.MaxInt} {
				if b, e := d.Read(at); b != nil || e != api.ErrMade {
					t.Errorf("Read(%d) = %v, %d", at, b, e)
				}
				want(t, "Write", d.Write(at, sector(1)...), api.ErrMade)
				want(t, "Write of too little", d.Write(at), api.ErrMade)
			}
			want(t, "Barrier", d.Barrier(), api.ErrMade)
			want(t, "Crash", d.Crash(true), api.ErrMade)
			want(t, "SetFuse", d.SetFuse(1, true), api.ErrMade)
			want(t, "SetFuse(-1)", d.SetFuse(-1), api.ErrMade)
			want(t, "Restart", d.Restart(), api.ErrMade)
			wantDirty(t, d)
			if d.Sectors() != 0 || d.Calls() != 0 || d.Down() || d.Clone() != nil {
				t.Errorf("%d sectors, %d calls, down %v", d.Sectors(), d.Calls(), d.Down())
			}
			if disk.Same(d, whole) || disk.Same(whole, d) || disk.Same(d, d) || disk.Same(nil, &disk.Disk{}) {
				t.Error("it is the same as another one")
			}
		}
	}
}

// R6: the same calls answer the same.
func TestSameAgain(t *testing.T) {
	run := func() (*disk.Disk, []int) {
		d := newDisk(t, 300)
		for i := range 1000 {
			d.Write(i*i%300, sector(byte(i))...)
			if i%400 == 399 {
				d.Barrier()
			}
		}
		list := slices.Collect(d.Dirty())
		d.Crash(true, false, true, true, false)
		return d, list
	}
	a, first := run()
	for range 20 {
		b, again := run()
		if !disk.Same(a, b) || !slices.Equal(first, again) {
			t.Fatal("another answer the second time")
		}
	}
}

// The bound: as many calls as this would not end in time if each one went through the whole disk more than once.
func TestAGreatDisk(t *testing.T) {
	d := newDisk(t, api.MaxSectors)
	for at := api.MaxSectors - 1; at >= 0; at-- {
		want(t, "Write", d.Write(at, sector(byte(at))...), api.OK)
	}
	keep := make([]bool, api.MaxSectors)
	for place := range keep {
		keep[place] = place%3 == 0
	}
	c := d.Clone()
	want(t, "Crash", c.Crash(keep...), api.OK)
	c.Restart()
	for at := range api.MaxSectors {
		n := byte(0)
		if at%3 == 0 {
			n = byte(at)
		}
		wantSector(t, c, at, sector(n))
	}
	want(t, "Barrier", d.Barrier(), api.OK)
	for range 20000 {
		want(t, "Write", d.Write(17, sector(1)...), api.OK)
		want(t, "Barrier", d.Barrier(), api.OK)
	}
}
