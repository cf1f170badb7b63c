package wal_test

import (
	"bytes"
	"encoding/binary"
	"hash/adler32"
	"math/rand/v2"
	"slices"
	"strings"
	"testing"

	"cresset/api"
	"cresset/codec"
	"cresset/disk"
	"cresset/wal"
)

// paperUnhead is the document's words on Unhead, written down a second time.
func paperUnhead(b []byte) told {
	if len(b) != 512 {
		return told{e: api.ErrArg}
	}
	if binary.LittleEndian.Uint32(b) != adler32.Checksum(b[4:]) {
		return told{e: 12}
	}
	seq, run, began := binary.LittleEndian.Uint64(b[4:]), binary.LittleEndian.Uint64(b[12:]), binary.LittleEndian.Uint64(b[20:])
	long := binary.LittleEndian.Uint16(b[28:])
	if seq > maxTS || run > maxTS || began > maxBegan || long > data || len(bytes.Trim(b[30+int(long):], "\x00")) > 0 {
		return told{e: 11}
	}
	return told{int64(seq), int64(run), int64(began), string(b[30 : 30+int(long)]), api.OK}
}

type paperRecord struct {
	item
	at int64 // its first byte
}

// paper is the document's words on a log, written down a second time: of the row each byte by its place, with a disk of its own.
type paper struct {
	d             *disk.Disk
	from, sectors int
	first         api.Mark
	run, began    int64
	row           map[int64]byte
	list          []paperRecord
	runs          map[int64]int64 // of the sectors that were made sure, with what is the log's
	end, sure     int64
	next, flushed int64
}

func paperOpen(d *disk.Disk, from, sectors int, m api.Mark) (*paper, api.Errno) {
	if d == nil || d.Sectors() == 0 {
		return nil, api.ErrMade
	}
	if from < 0 || sectors < 2 || sectors > d.Sectors() || from > d.Sectors()-sectors {
		return nil, 170
	}
	if min(m.Sector, m.Number, m.Run, int64(m.Offset)) < 0 || max(m.Sector, m.Number, m.Run) > maxTS || m.Offset > 481 {
		return nil, 170
	}
	p := &paper{d: d, from: from, sectors: sectors, first: m, row: map[int64]byte{}, runs: map[int64]int64{}}
	var all []told
	for at := from; at < from+sectors; at++ {
		b, e := d.Read(at)
		if e != api.OK {
			return nil, e
		}
		all = append(all, paperUnhead(b))
	}
	for _, s := range all {
		p.run = max(p.run, s.run)
	}
	p.run++
	p.read(all)
	return p, api.OK
}

// read finds what is there.
func (p *paper) read(all []told) {
	m := p.first
	begin, least := m.Sector*482, m.Run
	ends := begin // of the row
	for q := m.Sector; q < m.Sector+int64(p.sectors); q++ {
		s := all[q%int64(p.sectors)]
		if s.e != api.OK || s.seq != q || s.run < least {
			break
		}
		if q > m.Sector && s.run > least && s.began < q*482 {
			ends = max(s.began, begin)
			break
		}
		for i := range len(s.data) {
			p.row[q*482+int64(i)] = s.data[i]
		}
		p.runs[q], least = s.run, s.run
		ends = q*482 + int64(len(s.data))
		if len(s.data) < 482 {
			break
		}
	}
	p.end, p.next = begin+int64(m.Offset), m.Number
	var b []byte
	for at := p.end; at < ends; at++ {
		b = append(b, p.row[at])
	}
	for {
		x, long, e := codec.Unframe(b)
		if e != api.OK || len(x) > 65536 {
			break
		}
		p.add(string(x), long)
		b = b[long:]
	}
	for at := range p.row {
		if at >= min(p.end, ends) { // the row may end ahead of the mark's offset
			delete(p.row, at)
		}
	}
	for q := range p.runs {
		if q*482 >= p.end {
			delete(p.runs, q)
		}
	}
	p.began, p.sure, p.flushed = p.end, p.end, p.next
}

func (p *paper) add(s string, long int) {
	p.list = append(p.list, paperRecord{item{p.next, s}, p.end})
	p.next++
	p.end += int64(long)
}

func (p *paper) append(s string) (int64, api.Errno) {
	if len(s) > 65536 {
		return 0, api.ErrLong
	}
	f := frame(s)
	if (p.end+int64(len(f))-1)/482 >= p.first.Sector+int64(p.sectors) || p.next > maxTS {
		return 0, api.ErrFull
	}
	for i, x := range f {
		p.row[p.end+int64(i)] = x
	}
	p.add(s, len(f))
	return p.next - 1, api.OK
}

func (p *paper) flush() api.Errno {
	if p.flushed == p.next {
		return api.OK
	}
	var written []int64
	for q := p.first.Sector; q*482 < p.end; q++ {
		ends := min(p.end, q*482+482)
		if ends <= p.sure {
			continue
		}
		var b []byte
		for at := q * 482; at < ends; at++ {
			b = append(b, p.row[at])
		}
		s, e := paperHead(q, p.run, p.began, b)
		if e != api.OK {
			return e
		}
		if e := p.d.Write(p.from+int(q%int64(p.sectors)), s...); e != api.OK {
			return e
		}
		written = append(written, q)
	}
	if e := p.d.Barrier(); e != api.OK {
		return e
	}
	for _, q := range written {
		p.runs[q] = p.run
	}
	p.sure, p.flushed = p.end, p.next
	return api.OK
}

func (p *paper) at(at, number int64) api.Mark {
	m := api.Mark{Sector: at / 482, Offset: int(at % 482), Number: number, Run: p.run}
	if run, ok := p.runs[m.Sector]; ok {
		m.Run = run
	}
	return m
}

func (p *paper) place(n int64) (api.Mark, bool) {
	for _, x := range p.list {
		if x.number == n {
			return p.at(x.at, n), true
		}
	}
	if n == p.next {
		return p.at(p.end, n), true
	}
	return api.Mark{}, false
}

func (p *paper) truncate(m api.Mark) api.Errno {
	at, ok := p.place(m.Number)
	if !ok || at.Sector != m.Sector || at.Offset != m.Offset || m.Run > at.Run {
		return 170
	}
	p.first = m
	p.list = slices.DeleteFunc(p.list, func(x paperRecord) bool { return x.number < m.Number })
	return api.OK
}

func (p *paper) room() int {
	if p.next > maxTS {
		return 0
	}
	return int((p.first.Sector+int64(p.sectors))*482 - p.end)
}

// pair is a log and its paper, each on a disk of its own; both are asked for the same.
type pair struct {
	bench
	p *paper
}

func newPair(t *testing.T, sectors int) *pair {
	t.Helper()
	x := &pair{bench: *fresh(t, sectors)}
	x.p, _ = paperOpen(x.d.Clone(), x.from, x.sectors, api.Mark{})
	return x
}

func (x *pair) compare() {
	x.t.Helper()
	p := x.p
	if !disk.Same(x.d, p.d) || x.d.Calls() != p.d.Calls() || x.d.Down() != p.d.Down() || !slices.Equal(collect(x.d), collect(p.d)) {
		x.t.Fatalf("the disks are not the same: %d calls, want %d; dirty %v, want %v", x.d.Calls(), p.d.Calls(), collect(x.d), collect(p.d))
	}
	var l []item
	for _, r := range p.list {
		l = append(l, r.item)
	}
	x.wantRecords(l...)
	x.wantMark(p.at(p.end, p.next))
	x.wantRoom(p.room())
	if first, n := x.l.First(), x.l.Flushed(); first != p.first || n != p.flushed {
		x.t.Fatalf("First is %v, Flushed %d, want %v, %d", first, n, p.first, p.flushed)
	}
	for n := p.first.Number - 2; n <= p.next+2; n++ {
		got, ok := x.l.Place(n)
		if m, has := p.place(n); got != m || ok != has {
			x.t.Fatalf("Place(%d) = %v, %v, want %v, %v", n, got, ok, m, has)
		}
	}
}

func (x *pair) add(s string) {
	x.t.Helper()
	n, e := x.l.Append([]byte(s)...)
	if m, we := x.p.append(s); n != m || e != we {
		x.t.Fatalf("Append of %d bytes = %d, %d, want %d, %d", len(s), n, e, m, we)
	}
}

func (x *pair) flushBoth() api.Errno {
	x.t.Helper()
	e := x.l.Flush()
	x.want("Flush", e, x.p.flush())
	return e
}

func (x *pair) cut(m api.Mark) {
	x.t.Helper()
	x.want("Truncate", x.l.Truncate(m), x.p.truncate(m))
}

// cutAt cuts at the record that stands so many behind the first one.
func (x *pair) cutAt(n int64) {
	x.t.Helper()
	if m, ok := x.p.place(x.p.first.Number + n); ok {
		x.cut(m)
	}
}

// anew opens both; if that is refused they stay as they are.
func (x *pair) anew(m api.Mark) {
	x.t.Helper()
	l, e := wal.Open(x.d, x.from, x.sectors, m)
	p, we := paperOpen(x.p.d, x.from, x.sectors, m)
	if x.want("Open", e, we); e == api.OK {
		x.l, x.p = l, p
	}
}

func (x *pair) disks(what func(d *disk.Disk)) { what(x.d); what(x.p.d) }

func (x *pair) fuse(n int, keep ...bool) { x.disks(func(d *disk.Disk) { d.SetFuse(n, keep...) }) }

func (x *pair) crash(keep ...bool) {
	x.disks(func(d *disk.Disk) { d.Crash(keep...); d.Restart() })
}

func (x *pair) restart() { x.disks(func(d *disk.Disk) { d.Restart() }) }

// player picks what is done: mostly what may be, and now and then what may not.
type player struct {
	*pair
	*rand.Rand
}

func (x *player) keep() []bool {
	l, chance := make([]bool, x.sectors), x.IntN(4)
	for i := range l {
		l[i] = x.IntN(3) < chance
	}
	return l
}

// text is a record: often one that ends just where a sector does, or nearly so; now and then full of frames.
func (x *player) text() string {
	n := []int{x.IntN(10), 100, x.IntN(300), x.IntN(2000), 475}[x.IntN(5)]
	if x.IntN(3) == 0 {
		n = max(0, 482-x.p.at(x.p.end, 0).Offset-5-x.IntN(4))
	}
	if x.IntN(100) == 0 {
		n = 65536 + x.IntN(2)
	}
	f := string(frame(strings.Repeat("f", x.IntN(3))))
	if x.IntN(2) == 0 {
		return strings.Repeat(f, n/len(f)+2)[x.IntN(len(f)):][:n]
	}
	return strings.Repeat(string(rune('a'+x.IntN(26))), n)
}

func (x *player) mark() api.Mark {
	m := x.p.first
	if n := x.p.next - m.Number; x.IntN(3) > 0 {
		m, _ = x.p.place(m.Number + x.Int64N(n+1))
	}
	if x.IntN(8) == 0 {
		m.Run = x.Int64N(m.Run+3) - 1
	}
	switch x.IntN(30) {
	case 0:
		m.Offset = x.IntN(484) - 1
	case 1:
		m.Sector = max(0, m.Sector+x.Int64N(5)-3)
	case 2:
		m.Number += x.Int64N(5) - 2
	case 3:
		m = api.Mark{Sector: m.Sector + x.Int64N(4)}
	case 4:
		m.Number = maxTS - x.Int64N(3)
	}
	return m
}

// spoil writes sectors to the ring as an elder log might have left them there: some of those of a row of its own.
func (x *player) spoil() {
	run, began := x.Int64N(x.p.run+3), max(0, x.p.end+x.Int64N(1000)-700)
	if m := x.p.first; x.IntN(3) == 0 { // as one that began ahead of what is the log's
		began = max(0, m.Sector*482+int64(m.Offset)-x.Int64N(600))
	}
	var b []byte
	for range x.IntN(8) {
		b = append(b, frame(x.text())...)
	}
	q := max(0, x.p.first.Sector+x.Int64N(4)-1)
	chance := x.IntN(4)
	for s := range slices.Chunk(b, 482) {
		if x.IntN(3) < chance {
			l, _ := paperHead(q, run, began, s)
			if x.IntN(20) == 0 {
				l[x.IntN(512)]++
			}
			x.disks(func(d *disk.Disk) { d.Write(x.from+int(q%int64(x.sectors)), l...) })
		}
		q++
	}
}

// act does one and the same random thing to both.
func (x *player) act() {
	x.t.Helper()
	switch n := x.IntN(40); {
	case n < 16:
		x.add(x.text())
	case n < 24:
		if x.IntN(2) == 0 {
			x.fuse(1+x.IntN(5), x.keep()...)
		}
		x.flushBoth()
	case n < 29:
		x.cut(x.mark())
	case n < 32:
		x.crash(x.keep()...)
		if x.IntN(3) > 0 {
			x.anew(x.mark())
		}
	case n < 36:
		x.anew(x.mark())
	case n < 37:
		x.spoil()
		if x.IntN(2) == 0 {
			x.anew(x.p.first)
		}
	default:
		x.restart()
	}
}

// P17.2 to P17.4: long runs of calls, each of which is held against the document's words, with all that can be asked behind it, and all that stands on the disk.
func TestAgainstThePaper(t *testing.T) {
	for seed := range uint64(600) {
		r := rand.New(rand.NewPCG(seed, 17))
		x := &player{newPair(t, 2+r.IntN(6)), r}
		x.compare()
		for range 120 {
			x.act()
			x.compare()
		}
	}
}

// P17.2 to P17.4: all short runs of calls, from some beginnings on.
func TestAllShortRuns(t *testing.T) {
	acts := []func(x *pair){
		func(x *pair) { x.add("a") },
		func(x *pair) { x.add(filling(482)) },
		func(x *pair) { x.add(filling(300)) },
		func(x *pair) { x.flushBoth() },
		func(x *pair) { x.cutAt(1) },
		func(x *pair) { x.cut(x.p.at(x.p.end, x.p.next)) },
		func(x *pair) { x.fuse(1); x.flushBoth(); x.restart() },
		func(x *pair) { x.fuse(2, false, true); x.flushBoth(); x.restart() },
		func(x *pair) { x.fuse(2, true); x.flushBoth(); x.restart() },
		func(x *pair) { x.fuse(3, true, true); x.flushBoth(); x.restart() },
		func(x *pair) { x.anew(x.p.first) },
		func(x *pair) { m, _ := x.p.place(x.p.flushed); x.anew(m) },
	}
	for i, ahead := range [][]int{
		{},
		{0, 3, 2},
		{1, 3, 1},
		{2, 3, 2, 2, 7, 10}, // the second sector was left by a run that was cut off
		{2, 3, 2, 2, 8, 10}, // the first one
		{1, 1, 3, 4, 2, 3},
	} {
		begun := func() *pair {
			x := newPair(t, 3)
			for _, n := range ahead {
				acts[n](x)
			}
			return x
		}
		begun().compare()
		long, runs := 3, len(acts)*len(acts)*len(acts)
		if i == 0 {
			long, runs = 4, runs*len(acts)
		}
		for run := range runs {
			x := begun()
			for range long {
				acts[run%len(acts)](x)
				run /= len(acts)
			}
			x.compare()
		}
	}
}
