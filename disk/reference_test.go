package disk_test

import (
	"bytes"
	"math/rand/v2"
	"slices"
	"testing"

	"cresset/api"
	"cresset/disk"
)

// paper is the document's words on a disk, written down a second time over whole lists, so that what the package does can be held against them.
type paper struct {
	sure, last [][]byte
	dirty      []bool
	down       bool
	calls      int64
	fuse       int
	keep       []bool
}

func newPaper(sectors int) *paper {
	p := &paper{dirty: make([]bool, sectors)}
	for range sectors {
		p.sure = append(p.sure, make([]byte, 512))
		p.last = append(p.last, make([]byte, 512))
	}
	return p
}

func (p *paper) read(at int) ([]byte, api.Errno) {
	if p.down {
		return nil, api.ErrDown
	}
	if at < 0 || at >= len(p.last) {
		return nil, api.ErrSector
	}
	return p.last[at], api.OK
}

func (p *paper) write(at int, b []byte) api.Errno {
	if p.down {
		return api.ErrDown
	}
	if at < 0 || at >= len(p.last) {
		return api.ErrSector
	}
	if len(b) != 512 {
		return api.ErrArg
	}
	p.last[at] = bytes.Clone(b)
	p.dirty[at] = true
	return p.counted(false)
}

func (p *paper) barrier() api.Errno {
	if p.down {
		return api.ErrDown
	}
	return p.counted(true)
}

// counted counts a call, at which the power goes or, if it is a barrier, all becomes sure.
func (p *paper) counted(barrier bool) api.Errno {
	p.calls++
	if p.fuse == 1 {
		p.crash(p.keep)
		return api.ErrDown
	}
	if p.fuse > 1 {
		p.fuse--
	}
	if barrier {
		for at := range p.last {
			p.sure[at] = p.last[at]
			p.dirty[at] = false
		}
	}
	return api.OK
}

func (p *paper) crash(keep []bool) api.Errno {
	if p.down {
		return api.ErrDown
	}
	for at := range p.last {
		if !p.dirty[at] {
			continue
		}
		kept := len(keep) > 0 && keep[0]
		keep = keep[min(1, len(keep)):]
		if kept {
			p.sure[at] = p.last[at]
		} else {
			p.last[at] = p.sure[at]
		}
		p.dirty[at] = false
	}
	p.fuse, p.down = 0, true
	return api.OK
}

func (p *paper) setFuse(n int, keep []bool) api.Errno {
	if n < 0 {
		return api.ErrArg
	}
	p.fuse, p.keep = n, slices.Clone(keep)
	return api.OK
}

func (p *paper) restart() api.Errno {
	p.down = false
	return api.OK
}

func (p *paper) clone() *paper {
	c := *p
	c.sure, c.last, c.dirty = slices.Clone(p.sure), slices.Clone(p.last), slices.Clone(p.dirty)
	return &c
}

func (p *paper) dirtyList() []int {
	var l []int
	for at, yes := range p.dirty {
		if yes {
			l = append(l, at)
		}
	}
	return l
}

// compare holds all that can be asked of d against p.
func compare(t *testing.T, d *disk.Disk, p *paper) {
	t.Helper()
	if d.Sectors() != len(p.last) || d.Down() != p.down || d.Calls() != p.calls {
		t.Fatalf("%d sectors, down %v, %d calls; want %d, %v, %d", d.Sectors(), d.Down(), d.Calls(), len(p.last), p.down, p.calls)
	}
	if got, want := slices.Collect(d.Dirty()), p.dirtyList(); !slices.Equal(got, want) {
		t.Fatalf("dirty are %v, want %v", got, want)
	}
	for at := -1; at <= len(p.last); at++ {
		want, wantErr := p.read(at)
		if got, e := d.Read(at); e != wantErr || !bytes.Equal(got, want) || (e != api.OK && got != nil) {
			t.Fatalf("Read(%d) = %v, %d; want %v, %d", at, got, e, want, wantErr)
		}
	}
}

// contents are what the sectors of a disk have, be the power there or not.
func contents(t *testing.T, d *disk.Disk) [][]byte {
	t.Helper()
	c := d.Clone()
	c.Restart()
	var l [][]byte
	for at := range c.Sectors() {
		b, e := c.Read(at)
		if e != api.OK {
			t.Fatalf("Read(%d) behind a restart: %d", at, e)
		}
		l = append(l, b)
	}
	return l
}

// someKeep are choices, at times more or fewer than a disk has sectors.
func someKeep(r *rand.Rand) []bool {
	l := make([]bool, r.IntN(8))
	for i := range l {
		l[i] = r.IntN(2) == 0
	}
	return l
}

// act does one and the same random call to both, and holds the answers against each other.
func act(t *testing.T, r *rand.Rand, d *disk.Disk, p *paper) {
	t.Helper()
	var got, want api.Errno
	what := r.IntN(40)
	switch {
	case what < 22:
		at := r.IntN(p.size()+2) - 1
		b := sector(byte(r.IntN(4)))
		if r.IntN(12) == 0 {
			b = b[:[]int{0, 1, 511}[r.IntN(3)]]
		}
		got, want = d.Write(at, b...), p.write(at, b)
	case what < 29:
		got, want = d.Barrier(), p.barrier()
	case what < 31:
		keep := someKeep(r)
		got, want = d.Crash(keep...), p.crash(keep)
	case what < 34:
		n, keep := r.IntN(9)-1, someKeep(r)
		got, want = d.SetFuse(n, keep...), p.setFuse(n, keep)
		for i := range keep {
			keep[i] = !keep[i]
		}
	default:
		got, want = d.Restart(), p.restart()
	}
	if got != want {
		t.Fatalf("a call (%d) answered %d, want %d", what, got, want)
	}
}

func (p *paper) size() int { return len(p.last) }

// P2.1 to P2.3: long runs of calls, in each of which a clone goes its own way from some place on.
func TestAgainstThePaper(t *testing.T) {
	for seed := range uint64(60) {
		r := rand.New(rand.NewPCG(seed, 5))
		sectors := 1 + int(seed%7)
		d, e := disk.New(sectors)
		if e != api.OK {
			t.Fatalf("New(%d): %d", sectors, e)
		}
		p := newPaper(sectors)
		compare(t, d, p)
		for range 150 {
			act(t, r, d, p)
			compare(t, d, p)
		}
		c, q := d.Clone(), p.clone()
		for range 150 {
			act(t, r, d, p)
			compare(t, d, p)
			compare(t, c, q)
			act(t, r, c, q)
			compare(t, d, p)
			compare(t, c, q)
			same := slices.EqualFunc(p.last, q.last, bytes.Equal)
			if disk.Same(d, c) != same || disk.Same(c, d) != same {
				t.Fatalf("Same is not %v", same)
			}
		}
	}
}
