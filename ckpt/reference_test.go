package ckpt_test

import (
	"encoding/binary"
	"hash/adler32"
	"math/rand/v2"
	"slices"
	"strings"
	"testing"

	"cresset/api"
	"cresset/ckpt"
	"cresset/disk"
	"cresset/record"
)

// The document's words written down a second time: bytes are made by hand, and read by looking what chunk has just these bytes; a paper on which each pair of a writer stands with whether it was written. Each has a disk of its own.

func paperInt(n int) string {
	if n <= 100 {
		return string([]byte{byte(n + 108)})
	}
	b := strings.TrimLeft(string(binary.BigEndian.AppendUint64(nil, uint64(n))), "\x00")
	return string([]byte{byte(208 + len(b))}) + b
}

func paperText(s string) string { return paperInt(len(s)) + s }

// paperFrame are a chunk's bytes, framed; its ints are none below 0.
func paperFrame(c api.Chunk) string {
	last := 0
	if c.Last {
		last = 1
	}
	s := paperInt(c.Number) + paperInt(last) + paperInt(len(c.List))
	for _, p := range c.List {
		s += paperText(p.Key) + paperText(p.Value) + paperInt(int(p.TS))
	}
	return paperText(s) + string(binary.BigEndian.AppendUint32(nil, adler32.Checksum([]byte(s))))
}

// cursor reads what may be a chunk's bytes, without looking whether they are in the one form; ok says that they did not end.
type cursor struct {
	b  string
	ok bool
}

func (c *cursor) bytes(n int) string {
	if n < 0 || n > len(c.b) {
		c.ok = false
		return ""
	}
	s := c.b[:n]
	c.b = c.b[n:]
	return s
}

func (c *cursor) int() int {
	s := c.bytes(1)
	if !c.ok || s[0] < 8 || s[0] > 215 {
		c.ok = false
		return -1
	}
	if s[0] <= 208 {
		return int(s[0]) - 108
	}
	n := 0
	for _, x := range []byte(c.bytes(int(s[0]) - 208)) {
		n = n<<8 | int(x)
	}
	return n
}

// paperRead is the chunk whose frame is the beginning of bytes.
func paperRead(b string) (api.Chunk, bool) {
	c := &cursor{b, true}
	c.int()
	got := api.Chunk{Number: c.int(), Last: c.int() == 1}
	for many := c.int(); c.ok && len(got.List) < many; {
		p := pair(c.bytes(c.int()), c.bytes(c.int()), 0)
		p.TS = int64(c.int())
		got.List = append(got.List, p)
	}
	if !c.ok || paperCheck(got) != 0 || !strings.HasPrefix(b, paperFrame(got)) {
		return api.Chunk{}, false
	}
	return got, true
}

func paperCheck(c api.Chunk) api.Errno {
	if c.Number < 0 || c.Number > 4095 || len(c.List) > 16 {
		return 32
	}
	for i, p := range c.List {
		switch {
		case len(p.Key) < 1 || len(p.Key) > 64:
			return 30
		case len(p.Value) > 256:
			return 31
		case p.TS < 1 || p.TS > maxTS || i > 0 && p.Key <= c.List[i-1].Key:
			return 32
		}
	}
	return 0
}

// paperArea is the error that comes first, of a disk and an area.
func paperArea(d *disk.Disk, a api.Area) api.Errno {
	if d.Sectors() == 0 {
		return 2
	}
	if a.From < 0 || a.Chunks < 1 || a.Chunks > 4096 || int64(a.From)+12*int64(a.Chunks) > int64(d.Sectors()) {
		return 190
	}
	return 0
}

func paperWrite(d *disk.Disk, a api.Area, c api.Chunk) api.Errno {
	for _, e := range []api.Errno{paperArea(d, a), paperCheck(c)} {
		if e != 0 {
			return e
		}
	}
	if c.Number >= a.Chunks {
		return 190
	}
	b := paperFrame(c)
	b += strings.Repeat("\x00", 6144-len(b))
	frame := len(paperFrame(c))
	for i := 0; i*512 < frame; i++ {
		if e := d.Write(a.From+12*c.Number+i, []byte(b[i*512:i*512+512])...); e != 0 {
			return e
		}
	}
	return 0
}

func paperReadOf(d *disk.Disk, a api.Area, n int) (api.Chunk, api.Errno) {
	if e := paperArea(d, a); e != 0 {
		return api.Chunk{}, e
	}
	if n < 0 || n > a.Chunks-1 {
		return api.Chunk{}, 1
	}
	b := ""
	for at := a.From + 12*n; at < a.From+12*n+12; at++ {
		s, e := d.Read(at)
		if e != 0 {
			return api.Chunk{}, e
		}
		b += string(s)
	}
	c, ok := paperRead(b)
	if !ok || c.Number != n {
		return api.Chunk{}, 191
	}
	return c, 0
}

func paperLoad(d *disk.Disk, a api.Area, chunks int) ([]api.Stamped, api.Errno) {
	if e := paperArea(d, a); e != 0 {
		return nil, e
	}
	if chunks < 1 || chunks > a.Chunks {
		return nil, 191
	}
	var l []api.Chunk
	for n := range chunks {
		c, e := paperReadOf(d, a, n)
		if e != 0 {
			return nil, e
		}
		l = append(l, c)
	}
	var all []api.Stamped
	for n, c := range l {
		if c.Last && n < chunks-1 || !c.Last && n == chunks-1 {
			return nil, 191
		}
		all = append(all, c.List...)
	}
	for i, p := range all {
		if i > 0 && p.Key <= all[i-1].Key {
			return nil, 191
		}
	}
	return all, 0
}

type entry struct {
	p       api.Stamped
	written bool
}

type paper struct {
	d       *disk.Disk
	a       api.Area
	all     []entry // each pair that was ever put
	written int
	done    bool
}

func (p *paper) gathered() []int {
	var l []int
	for i, x := range p.all {
		if !x.written {
			l = append(l, i)
		}
	}
	return l
}

func (p *paper) write(places []int, last bool) api.Errno {
	c := api.Chunk{Number: p.written, Last: last}
	for _, i := range places {
		c.List = append(c.List, p.all[i].p)
	}
	if e := paperWrite(p.d, p.a, c); e != 0 {
		return e
	}
	for _, i := range places {
		p.all[i].written = true
	}
	p.written++
	return 0
}

func (p *paper) put(l []api.Stamped) api.Errno {
	if p.done {
		return 191
	}
	for _, x := range l {
		p.all = append(p.all, entry{x, false})
	}
	for len(p.gathered()) > 16 {
		if e := p.write(p.gathered()[:16], false); e != 0 {
			return e
		}
	}
	return 0
}

func (p *paper) finish() (int, api.Errno) {
	if p.done {
		return 0, 191
	}
	if e := p.write(p.gathered(), true); e != 0 {
		return 0, e
	}
	if e := p.d.Barrier(); e != 0 {
		return 0, e
	}
	p.done = true
	return p.written, 0
}

// twin is a disk and the paper's one, and writers of both.
type twin struct {
	d, p    *disk.Disk
	writers []*ckpt.Writer
	papers  []*paper
}

func newTwin(sectors int) *twin {
	d, _ := disk.New(sectors)
	p, _ := disk.New(sectors)
	return &twin{d: d, p: p}
}

func (w *twin) open(t *testing.T, a api.Area) {
	t.Helper()
	made, e := ckpt.New(w.d, a)
	want(t, "New", e, paperArea(w.p, a))
	if e == 0 {
		w.writers, w.papers = append(w.writers, made), append(w.papers, &paper{d: w.p, a: a})
	}
}

func (w *twin) put(t *testing.T, i int, l []api.Stamped) {
	t.Helper()
	want(t, "Put", w.writers[i].Put(l...), w.papers[i].put(l))
}

func (w *twin) finish(t *testing.T, i int) {
	t.Helper()
	n, e := w.writers[i].Done()
	if pn, pe := w.papers[i].finish(); n != pn || e != pe {
		t.Fatalf("Done: %d, %d, want %d, %d", n, e, pn, pe)
	}
}

func (w *twin) write(t *testing.T, a api.Area, c api.Chunk) {
	t.Helper()
	want(t, "Write", ckpt.Write(w.d, a, c), paperWrite(w.p, a, c))
}

func (w *twin) both(do func(d *disk.Disk)) {
	do(w.d)
	do(w.p)
}

// look holds what is there against the paper.
func (w *twin) look(t *testing.T) {
	t.Helper()
	if !disk.Same(w.d, w.p) || w.d.Calls() != w.p.Calls() || w.d.Down() != w.p.Down() || !slices.Equal(slices.Collect(w.d.Dirty()), slices.Collect(w.p.Dirty())) {
		t.Fatal("another disk than the paper's")
	}
	for i := range w.writers {
		if w.writers[i].Written() != w.papers[i].written {
			t.Fatalf("%d chunks were written, want %d", w.writers[i].Written(), w.papers[i].written)
		}
	}
}

// read holds what an area has against the paper; some of the answers.
func (w *twin) read(t *testing.T, a api.Area, chunks int) map[api.Errno]int {
	t.Helper()
	seen := map[api.Errno]int{}
	for n := -1; n <= chunks; n++ {
		c, e := ckpt.Read(w.d, a, n)
		if pc, pe := paperReadOf(w.p, a, n); e != pe || !record.SameChunk(c, pc) {
			t.Fatalf("Read of %d: %v, %d, want %v, %d", n, c, e, pc, pe)
		}
		l, e := ckpt.Load(w.d, a, n)
		if pl, pe := paperLoad(w.p, a, n); e != pe || !slices.Equal(l, pl) {
			t.Fatalf("Load of %d: %v, %d, want %v, %d", n, l, e, pl, pe)
		}
		seen[e]++
	}
	return seen
}

type plenty struct{ *rand.Rand }

func (p plenty) area() api.Area {
	return api.Area{From: p.IntN(4) - p.IntN(2)*p.IntN(2), Chunks: 1 + p.IntN(4) - p.IntN(2)*p.IntN(2)}
}

func (p plenty) text(most int) string {
	b := make([]byte, p.IntN(most+1))
	for i := range b {
		b[i] = byte(p.IntN(256))
	}
	return string(b)
}

// pairs are some, mostly of rising keys; at is where the keys go on.
func (p plenty) pairs(at *int, most int) []api.Stamped {
	var l []api.Stamped
	for range p.IntN(most + 1) {
		*at += 1 + p.IntN(3)
		x := pair(name(*at), p.text([]int{3, 3, 256}[p.IntN(3)]), 1+p.Int64N(maxTS))
		switch p.IntN(400) {
		case 0:
			x.Key = p.text(66)
		case 1:
			x.Value = longValue + p.text(3)
		case 2:
			x.TS = maxTS*p.Int64N(3) + p.Int64N(3) - 1
		case 3:
			*at -= p.IntN(30)
			*at = max(*at, 0)
		}
		l = append(l, x)
	}
	return l
}

func (p plenty) chunk() api.Chunk {
	at := p.IntN(100)
	return api.Chunk{Number: p.IntN(6) - p.IntN(2)*p.IntN(2), List: p.pairs(&at, 5+12*p.IntN(2)), Last: p.IntN(2) == 0}
}

func (p plenty) keep() []bool {
	var l []bool
	for range p.IntN(14) {
		l = append(l, p.IntN(3) > 0)
	}
	return l
}

// disturb does what befalls a disk: the power, other writes.
func (p plenty) disturb(w *twin) {
	keep, at, n := p.keep(), p.IntN(60), p.IntN(12)
	switch p.IntN(8) {
	case 0:
		w.both(func(d *disk.Disk) { d.Crash(keep...) })
	case 1:
		w.both(func(d *disk.Disk) { d.SetFuse(n, keep...) })
	case 2:
		from := p.IntN(60)
		w.both(func(d *disk.Disk) {
			b, _ := d.Read(from)
			d.Write(at, b...)
		})
	case 3:
		spot, x := p.IntN(200), byte(1+p.IntN(255))
		w.both(func(d *disk.Disk) {
			if b, e := d.Read(at); e == 0 {
				b[spot] ^= x
				d.Write(at, b...)
			}
		})
	case 4:
		w.both(func(d *disk.Disk) { d.Barrier() })
	default:
		w.both(func(d *disk.Disk) { d.Restart() })
	}
}

// Long random runs of several writers to areas that overlap, with fuses, crashes and bytes that others write.
func TestAgainstThePaper(t *testing.T) {
	p := plenty{rand.New(rand.NewPCG(19, 1))}
	seen := map[api.Errno]int{}
	for range 250 {
		w := newTwin(50 + p.IntN(12))
		a := p.area()
		w.open(t, a)
		at := 0
		for range 60 {
			switch k := p.IntN(20); {
			case k < 2:
				a = p.area()
				w.open(t, a)
			case k < 9 && len(w.writers) > 0:
				w.put(t, len(w.writers)-1, p.pairs(&at, []int{0, 3, 20, 50}[p.IntN(4)]))
			case k < 11 && len(w.writers) > 0:
				w.put(t, p.IntN(len(w.writers)), p.pairs(&at, 20))
			case k < 13 && len(w.writers) > 0:
				w.finish(t, len(w.writers)-1)
			case k < 14 && len(w.writers) > 0:
				w.finish(t, p.IntN(len(w.writers)))
			case k < 16:
				w.write(t, a, p.chunk())
			default:
				p.disturb(w)
			}
			w.look(t)
			for e, n := range w.read(t, a, 5) {
				seen[e] += n
			}
		}
	}
	for _, e := range []api.Errno{0, 6, 190, 191} {
		if seen[e] < 1000 {
			t.Errorf("Load answered %d only %d times: %v", e, seen[e], seen)
		}
	}
}

// All short runs of what a writer and its disk are told, from each beginning.
func TestAllShortRuns(t *testing.T) {
	a := api.Area{From: 2, Chunks: 2}
	next := 0
	pairs := func(n int) []api.Stamped {
		next += n
		return from(next-n, n)
	}
	acts := []func(t *testing.T, w *twin){
		func(t *testing.T, w *twin) { w.put(t, 0, nil) },
		func(t *testing.T, w *twin) { w.put(t, 0, pairs(1)) },
		func(t *testing.T, w *twin) { w.put(t, 0, pairs(16)) },
		func(t *testing.T, w *twin) { w.put(t, 0, pairs(17)) },
		func(t *testing.T, w *twin) { w.put(t, 0, []api.Stamped{pair("", "", 1)}) },
		func(t *testing.T, w *twin) { w.finish(t, 0) },
		func(t *testing.T, w *twin) { w.both(func(d *disk.Disk) { d.SetFuse(1) }) },
		func(t *testing.T, w *twin) { w.both(func(d *disk.Disk) { d.SetFuse(2, true, true, true) }) },
		func(t *testing.T, w *twin) { w.both(func(d *disk.Disk) { d.Restart() }) },
	}
	run := func(l []int) {
		w := newTwin(26)
		next = 0
		w.open(t, a)
		for _, i := range l {
			acts[i](t, w)
			w.look(t)
		}
		w.read(t, a, 3)
	}
	var all func(l []int, left int)
	all = func(l []int, left int) {
		run(l)
		if left == 0 {
			return
		}
		for i := range acts {
			all(append(slices.Clone(l), i), left-1)
		}
	}
	all(nil, 4)
	for _, long := range []int{15, 16, 31} { // with so many put already
		w := from(0, long)
		for i := range acts {
			for k := range acts {
				for m := range acts {
					x := newTwin(26)
					x.open(t, a)
					x.put(t, 0, w)
					next = long
					for _, n := range []int{i, k, m, 8, 5} {
						acts[n](t, x)
						x.look(t)
					}
					x.read(t, a, 3)
				}
			}
		}
	}
}

// What is written is byte by byte what the document says.
func TestBytesOfChunks(t *testing.T) {
	p := plenty{rand.New(rand.NewPCG(19, 2))}
	a := api.Area{From: 1, Chunks: 1360}
	for range 200 {
		d, other := newDisk(t, 1+12*1360), newDisk(t, 1+12*1360)
		c := p.chunk()
		c.Number = p.IntN(1362)
		want(t, "Write", ckpt.Write(d, a, c), paperWrite(other, a, c))
		if !disk.Same(d, other) {
			t.Fatalf("other bytes of %v", c)
		}
	}
}
