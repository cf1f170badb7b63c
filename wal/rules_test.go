package wal_test

import (
	"bytes"
	"iter"
	"math"
	"runtime"
	"slices"
	"strconv"
	"strings"
	"testing"

	"cresset/api"
	"cresset/disk"
	"cresset/wal"
)

// The calls that the chapter lists keep their signatures.
var (
	_ func(*disk.Disk, int, int, api.Mark) (*wal.Log, api.Errno) = wal.Open
	_ func(*wal.Log, ...byte) (int64, api.Errno)                 = (*wal.Log).Append
	_ func(*wal.Log) api.Errno                                   = (*wal.Log).Flush
	_ func(*wal.Log, api.Mark) api.Errno                         = (*wal.Log).Truncate
	_ func(*wal.Log) api.Mark                                    = (*wal.Log).Mark
	_ func(*wal.Log) api.Mark                                    = (*wal.Log).First
	_ func(*wal.Log, int64) (api.Mark, bool)                     = (*wal.Log).Place
	_ func(*wal.Log) int64                                       = (*wal.Log).Flushed
	_ func(*wal.Log) int                                         = (*wal.Log).Room
	_ func(*wal.Log) iter.Seq2[int64, []byte]                    = (*wal.Log).Records
	_ func(int64, int64, int64, []byte) ([]byte, api.Errno)      = wal.Head
	_ func([]byte) (int64, int64, int64, []byte, api.Errno)      = wal.Unhead
)

func TestNumbersOfApi(t *testing.T) {
	got := []int{int(api.ErrLog), api.WalHead, api.WalData, api.MaxLog, api.MaxTS, api.Sector, int(api.ErrArg), int(api.ErrMade), int(api.ErrLong), int(api.ErrFull), int(api.ErrDown), int(api.ErrForm), int(api.ErrCheck)}
	if wanted := []int{170, 30, 482, 65536, 1 << 40, 512, 1, 2, 3, 5, 6, 11, 12}; !slices.Equal(got, wanted) {
		t.Errorf("errors and numbers are %v, want %v", got, wanted)
	}
}

var (
	anyNumbers = []int64{math.MinInt64, -1, 0, 1, 2, 5, maxTS - 1, maxTS, maxTS + 1, math.MaxInt64}
	anyOffsets = []int{math.MinInt, -1, 0, 1, 6, 481, 482, math.MaxInt}
)

func anyMarks() []api.Mark {
	var l []api.Mark
	for _, sector := range anyNumbers {
		for _, offset := range anyOffsets {
			for _, number := range anyNumbers {
				for _, run := range anyNumbers {
					l = append(l, mark(sector, offset, number, run))
				}
			}
		}
	}
	return l
}

// askAll asks all calls of a log for all kinds of arguments; of each error it tells what beside it is not zero.
func askAll(l *wal.Log) []string {
	var odd []string
	note := func(what string, e api.Errno, zero bool) {
		if e != api.OK && !zero {
			odd = append(odd, what+" beside "+strconv.Itoa(int(e)))
		}
	}
	for _, n := range []int{0, 1, 475, 476, 5000, 65536, 65537, 1 << 20} {
		at, e := l.Append(make([]byte, n)...)
		note("Append", e, at == 0)
		l.Flush()
	}
	for _, n := range anyNumbers {
		m, ok := l.Place(n)
		if !ok && m != (api.Mark{}) {
			odd = append(odd, "Place beside false")
		}
	}
	for _, m := range anyMarks() {
		l.Truncate(m)
	}
	l.Truncate(l.Mark())
	l.First()
	l.Flushed()
	l.Room()
	records(l)
	return odd
}

// R1, R2: whatever is handed in, each call ends, and none panics; beside an error all is zero.
func TestAnyArguments(t *testing.T) {
	for _, m := range anyMarks() {
		d, _ := disk.New(5)
		for _, c := range [][2]int{{math.MinInt, 2}, {-1, 3}, {0, 2}, {0, 5}, {3, 2}, {4, 2}, {1, math.MaxInt}, {math.MaxInt, 2}, {0, math.MinInt}} {
			l, e := wal.Open(d, c[0], c[1], m)
			if (l == nil) != (e != api.OK) {
				t.Fatalf("Open at %v = %v, %d", m, l, e)
			}
			if e == api.OK && (m.Run == 0 || m.Number == maxTS) && (m.Offset == 481 || m.Sector == maxTS) {
				if odd := askAll(l); odd != nil {
					t.Errorf("not zero: %v", odd)
				}
			}
		}
	}
	d, _ := disk.New(300)
	for range 3 {
		l, _ := wal.Open(d, 0, 300, api.Mark{})
		if odd := askAll(l); odd != nil {
			t.Errorf("not zero: %v", odd)
		}
		d.Crash(true, false, true)
		if odd := askAll(l); odd != nil {
			t.Errorf("not zero: %v", odd)
		}
		d.Restart()
	}
}

// R2: what is refused has changed nothing.
func TestWhatIsRefusedChangesNothing(t *testing.T) {
	x := newPair(t, 3)
	x.add("a")
	x.flushBoth()
	x.add(filling(300))
	for _, ask := range []func() api.Errno{
		func() api.Errno { _, e := x.l.Append(make([]byte, 65537)...); return e },
		func() api.Errno { _, e := x.l.Append(make([]byte, 1200)...); return e },
		func() api.Errno { return x.l.Truncate(mark(0, 0, 0, 2)) },
		func() api.Errno { return x.l.Truncate(mark(0, 0, 1, 0)) },
		func() api.Errno { return x.l.Truncate(mark(0, 307, 2, 1)) },
		func() api.Errno { _, e := wal.Open(x.d, x.from, x.sectors, mark(-1, 0, 0, 0)); return e },
	} {
		if ask() == api.OK {
			t.Error("it is not refused")
		}
		x.compare()
	}
	x.disks(func(d *disk.Disk) { d.Crash() })
	if x.flushBoth() != api.ErrDown {
		t.Error("it is not refused")
	}
	x.compare()
	x.disks(func(d *disk.Disk) { d.Restart() })
	x.flushBoth()
	x.compare()
}

// R3: what is handed in to Append is left as it is, and not kept; what Records answers is its caller's alone.
func TestRecordsAreTheCallers(t *testing.T) {
	b := fresh(t, 4)
	mine := append(make([]byte, 0, 100), "abc"...)
	b.l.Append(mine...)
	copy(mine, "xyz")
	if !bytes.Equal(mine[:100], append([]byte("xyz"), make([]byte, 97)...)) {
		t.Errorf("what was handed in is %q", mine[:100])
	}
	seq := b.l.Records()
	for range 2 {
		for _, r := range seq {
			if string(r) != "abc" {
				t.Fatalf("the record is %q", r)
			}
			r[0] = 'q'
			_ = append(r, "more"...)
		}
	}
	b.append("d")
	b.wantRecords(item{0, "abc"}, item{1, "d"})
	b.flush()
	s, _ := b.d.Read(1)
	clear(s)
	b.wantOpen(api.Mark{}, mark(0, 14, 2, 1), "abc", "d")
}

// R3: Records tells what was there when it was asked for, whatever is done on the way or behind; it may stop, and be done again.
func TestRecordsTellsWhatWasThere(t *testing.T) {
	b := fresh(t, 6)
	none := b.l.Records()
	b.append("a", strings.Repeat("b", 600), "c")
	seq := b.l.Records()
	wanted := []item{{0, "a"}, {1, strings.Repeat("b", 600)}, {2, "c"}}
	collect := func(seq iter.Seq2[int64, []byte], each func()) []item {
		var l []item
		for n, r := range seq {
			l = append(l, item{n, string(r)})
			each()
		}
		return l
	}
	if got := collect(seq, func() { b.append("new"); b.flush(); b.truncate(b.l.Mark()) }); !slices.Equal(got, wanted) {
		t.Errorf("changed on the way: %s", brief(got))
	}
	for stop := 1; stop <= 3; stop++ {
		n := 0
		for number := range seq {
			if number != int64(n) {
				t.Errorf("the number %d, want %d", number, n)
			}
			if n++; n == stop {
				break
			}
		}
		if n != stop {
			t.Errorf("%d told, want %d", n, stop)
		}
	}
	pairs := 0
	for range seq {
		for range seq {
			pairs++
		}
	}
	if pairs != 9 {
		t.Errorf("one run inside another tells %d pairs", pairs)
	}
	for range 2 {
		if got := collect(seq, func() {}); !slices.Equal(got, wanted) {
			t.Errorf("again: %s", brief(got))
		}
		if got := collect(none, func() {}); got != nil {
			t.Errorf("asked for when there was none: %s", brief(got))
		}
	}
	b.wantRecords()
}

// R5: a log that no call made.
func TestALogThatNoCallMade(t *testing.T) {
	for _, l := range []*wal.Log{nil, {}, new(wal.Log)} {
		b := bench{t: t, l: l}
		for range 2 {
			for _, s := range [][]byte{nil, {1}, make([]byte, 65537)} {
				if n, e := l.Append(s...); n != 0 || e != api.ErrMade {
					t.Errorf("Append = %d, %d", n, e)
				}
			}
			b.want("Flush", l.Flush(), api.ErrMade)
			for _, m := range []api.Mark{{}, mark(0, 0, 1, 0), mark(-1, -1, -1, -1)} {
				b.want("Truncate", l.Truncate(m), api.ErrMade)
			}
			for _, n := range anyNumbers {
				if m, ok := l.Place(n); m != (api.Mark{}) || ok {
					t.Errorf("Place(%d) = %v, %v", n, m, ok)
				}
			}
			b.wantMark(api.Mark{})
			b.wantFirst(api.Mark{}, 0)
			b.wantRoom(0)
			if n := l.Flushed(); n != 0 {
				t.Errorf("Flushed is %d", n)
			}
			if odd := askAll(l); odd != nil {
				t.Errorf("not zero: %v", odd)
			}
		}
	}
}

// R6: the same calls answer the same.
func TestSameAgain(t *testing.T) {
	run := func() string {
		var l strings.Builder
		x := newLife(t, 99)
		for range 2000 {
			x.act()
			m := x.l.Mark()
			for _, n := range []int64{m.Sector, int64(m.Offset), m.Number, m.Run, x.l.Flushed(), int64(x.l.Room()), x.d.Calls()} {
				l.WriteString(strconv.FormatInt(n, 10) + " ")
			}
			l.WriteString(brief(records(x.l)))
		}
		return l.String()
	}
	first := run()
	for range 3 {
		if run() != first {
			t.Fatal("another answer the second time")
		}
	}
}

// The bound: as many sectors, and as many records, as there can be.
func TestAGreatLog(t *testing.T) {
	const many = 16384
	d, _ := disk.New(many)
	b := &bench{t, d, nil, 0, many}
	b.open(api.Mark{})
	records := int64(0)
	for b.l.Room() >= 5 {
		b.append("")
		records++
	}
	if wanted := int64(many * 482 / 5); records != wanted {
		t.Fatalf("%d records, want %d", records, wanted)
	}
	b.flush()
	b.open(api.Mark{})
	n := int64(0)
	for number, r := range b.l.Records() {
		if number != n || len(r) > 0 {
			t.Fatalf("the record %d is %d, %q", n, number, r)
		}
		n++
	}
	if n != records || b.l.Flushed() != records {
		t.Fatalf("%d records behind Open, %d are sure", n, b.l.Flushed())
	}
	for n := int64(0); n < records; n += 997 {
		if m := b.place(n); m != mark(n*5/482, int(n*5%482), n, 1) {
			t.Fatalf("Place(%d) = %v", n, m)
		}
	}
	b.truncate(b.place(records - 1))
	b.wantRoom(many*482 - int(records*5-(records-1)*5/482*482))
	for b.l.Room() >= 65544 {
		b.append(strings.Repeat("v", 65536))
	}
	b.flush()
	b.open(b.l.First())
	if b.l.Room() >= 65544 {
		t.Errorf("Room is %d", b.l.Room())
	}
}

// The bound: each Flush writes no more than what is not sure, and each Append takes no more than its record.
func TestManySmallFlushes(t *testing.T) {
	b := fresh(t, 4000)
	for i := range 150000 {
		b.append("0123456")
		if i%3 == 0 {
			b.flush()
		}
	}
	if calls := b.d.Calls(); calls > 50000*2+150000*12/482 {
		t.Errorf("%d calls", calls)
	}
	for range 2000 {
		n := b.l.First().Number
		b.truncate(b.place(n + 50))
	}
}

// The bound: what was cut off takes no room.
func TestNothingIsKeptOfWhatIsCutOff(t *testing.T) {
	held := func() uint64 {
		runtime.GC()
		var m runtime.MemStats
		runtime.ReadMemStats(&m)
		return m.HeapAlloc
	}
	b := fresh(t, 300)
	before := held()
	for range 20000 {
		b.append("some", strings.Repeat("v", 5000))
		b.flush()
		b.truncate(b.l.Mark())
	}
	if behind := held(); behind > before+1<<19 {
		t.Errorf("%d bytes are held behind it, %d ahead", behind, before)
	}
	b = fresh(t, 16000)
	for b.l.Room() > 70000 {
		b.append(strings.Repeat("v", 65536))
	}
	b.flush()
	full := held()
	b.truncate(b.l.Mark())
	if left := held(); left > full-7<<20 {
		t.Errorf("%d bytes are held when a row of %d is cut off, %d ahead", left, 16000*482, full)
	}
	runtime.KeepAlive(b)
}
