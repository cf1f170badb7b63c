package wal_test

import (
	"math/rand/v2"
	"slices"
	"strings"
	"testing"

	"cresset/api"
	"cresset/disk"
	"cresset/wal"
)

// life is a log over a disk whose power goes again and again, and what one knows of it: all that it was given from its first record on, how much of that is sure, and every place that was ever told of each record.
type life struct {
	*bench
	*rand.Rand
	first  int64
	list   []string
	sure   int64 // all below it are sure
	places map[int64][]api.Mark
	evil   bool // records are full of frames
	early  bool // what is not sure may be cut off
}

func newLife(t *testing.T, seed uint64) *life {
	r := rand.New(rand.NewPCG(seed, 175))
	x := &life{Rand: r, places: map[int64][]api.Mark{}}
	d, _ := disk.New(12)
	x.bench = &bench{t, d, nil, r.IntN(4), 2 + r.IntN(7)}
	x.bench.open(api.Mark{})
	return x
}

// text is a record: often one that ends just where a sector does, or nearly so.
func (x *life) text() string {
	n := []int{x.IntN(10), 475, x.IntN(300), x.IntN(2000), 100, max(0, 476-x.l.Mark().Offset-x.IntN(3))}[x.IntN(6)]
	if x.evil && x.IntN(3) > 0 {
		f := string(frame(string(rune('A' + x.IntN(26)))))
		return strings.Repeat(f, n/len(f)+2)[x.IntN(len(f)):][:n]
	}
	b := make([]byte, n)
	for i := range b {
		b[i] = byte(x.Uint32())
	}
	return string(b)
}

func (x *life) keep() []bool {
	l, chance := make([]bool, x.sectors), 1+x.IntN(4)
	for i := range l {
		l[i] = x.IntN(4) < chance
	}
	return l
}

// note keeps the places that the log tells of its records now.
func (x *life) note() {
	for i := range x.list {
		n := x.first + int64(i)
		if m := x.place(n); !slices.Contains(x.places[n], m) {
			x.places[n] = append(x.places[n], m)
		}
	}
}

// found is what Open finds from a place on: what was sure must be there, and behind it only what was appended.
func (x *life) found(m api.Mark) []string {
	x.t.Helper()
	l, e := wal.Open(x.d, x.from, x.sectors, m)
	x.want("Open", e, api.OK)
	wanted := x.list[m.Number-x.first:]
	var got []string
	for n, b := range l.Records() {
		if i := len(got); n != m.Number+int64(i) || i >= len(wanted) || string(b) != wanted[i] {
			x.t.Fatalf("from %v on the record %d is %.20q; %d were appended", m, n, b, len(wanted))
		}
		got = append(got, string(b))
	}
	if m.Number+int64(len(got)) < x.sure {
		x.t.Fatalf("from %v on there are %d records, and all below %d were sure", m, len(got), x.sure)
	}
	return got
}

// anew opens the log from each place that it may be opened from, and goes on with one of them.
func (x *life) anew() {
	x.t.Helper()
	m := x.l.First()
	marks := []api.Mark{m}
	for n := x.first; n < x.sure; n++ {
		marks = append(marks, x.places[n]...)
	}
	for _, at := range marks {
		x.found(at)
	}
	if x.IntN(4) == 0 {
		m = marks[x.IntN(len(marks))]
	}
	x.list = x.found(m)
	x.bench.open(m)
	x.first, x.sure = m.Number, m.Number+int64(len(x.list))
	for n := range x.places {
		if n < x.first || n >= x.sure {
			delete(x.places, n)
		}
	}
	x.note()
}

func (x *life) flushOrNot() {
	x.t.Helper()
	if x.IntN(2) == 0 {
		x.want("SetFuse", x.d.SetFuse(1+x.IntN(6), x.keep()...), api.OK)
	}
	e := x.l.Flush()
	if e == api.OK {
		x.d.SetFuse(0)
		x.sure = x.first + int64(len(x.list))
		x.note()
		return
	}
	x.want("Flush", e, api.ErrDown)
	x.want("Restart", x.d.Restart(), api.OK)
	if x.IntN(5) > 0 { // else the same log goes on
		x.anew()
	}
}

func (x *life) cut() {
	x.t.Helper()
	n := x.first + x.Int64N(int64(len(x.list))+1)
	if !x.early {
		n = min(n, x.sure)
	}
	x.truncate(x.place(n))
	x.list = x.list[n-x.first:]
	x.first, x.sure = n, max(n, x.sure)
}

func (x *life) act() {
	x.t.Helper()
	switch n := x.IntN(18); {
	case n < 9:
		s := x.text()
		if _, e := x.l.Append([]byte(s)...); e == api.OK {
			x.list = append(x.list, s)
			x.note()
		}
	case n < 13:
		x.flushOrNot()
	case n < 16:
		x.cut()
	case n < 17:
		x.power(x.keep()...)
		x.anew()
	default:
		x.anew()
	}
}

// P17.5: what was sure is there behind any crash, and nothing else: of long lives, opened from each place that may be.
func TestSureIsThere(t *testing.T) {
	for seed := range uint64(1500) {
		x := newLife(t, seed)
		x.evil = seed%2 == 0
		x.early = !x.evil // a place that is not sure tells the run that its sector has on the disk: elder frames in the same sector count from there on
		for range 70 {
			x.act()
		}
	}
}

// crashes calls what with each way in which so many calls of the disk, the last one a barrier, can be cut off: at which one, and what stays then.
func crashes(calls int, what func(fuse int, keep []bool)) {
	for fuse := 1; fuse <= calls; fuse++ {
		dirty := min(fuse, calls-1)
		for set := range 1 << dirty {
			keep := make([]bool, dirty)
			for i := range keep {
				keep[i] = set>>i&1 == 1
			}
			what(fuse, keep)
		}
	}
}

// flushed opens the log on a copy of a disk, appends what is given behind what is there, and flushes that, perhaps not to its end.
func flushed(t *testing.T, d *disk.Disk, there, given []string, fuse int, keep ...bool) (*bench, int) {
	t.Helper()
	b := &bench{t, d.Clone(), nil, 0, 8}
	b.open(api.Mark{})
	if len(records(b.l)) != len(there) {
		t.Fatalf("%s, want %d", brief(records(b.l)), len(there))
	}
	for i, s := range given {
		if n := b.append(s); n != int64(len(there)+i) {
			t.Fatalf("the number %d behind %d", n, len(there))
		}
	}
	b.want("SetFuse", b.d.SetFuse(fuse, keep...), api.OK)
	at, wanted := b.d.Calls(), api.ErrDown
	if fuse == 0 {
		wanted = api.OK
	}
	b.want("Flush", b.l.Flush(), wanted)
	return b, int(b.d.Calls() - at)
}

// P17.5: all ways in which three Flushes can be cut off, one behind the other, each of two records over three sectors: of one sector three runs may be there.
func TestAllCrashes(t *testing.T) {
	ways := 0
	given := func(run int) []string { // frames, which stand in the same places in the first and the third run
		l := []string{}
		for i := range 2 {
			f := frame(string(rune('A' + 2*run + i)))
			l = append(l, strings.Repeat("x", run%2)+strings.Repeat(string(f), 60+30*i))
		}
		return l
	}
	var further func(d *disk.Disk, there []string, run int)
	further = func(d *disk.Disk, there []string, run int) {
		ways++
		if run == 3 {
			return
		}
		whole, calls := flushed(t, d, there, given(run), 0)
		all := slices.Concat(there, given(run))
		try := func(b *bench, least int) {
			b.power()
			b.open(api.Mark{})
			l := records(b.l)
			var got []string
			for i, x := range l {
				if i >= len(all) || x != (item{int64(i), all[i]}) {
					t.Fatalf("behind %d: %s", len(there), brief(l))
				}
				got = append(got, x.data)
			}
			if len(got) < least {
				t.Fatalf("behind %d: %s, and %d were sure", len(there), brief(l), least)
			}
			further(b.d, got, run+1)
		}
		try(whole, len(all))
		crashes(calls, func(fuse int, keep []bool) {
			cut, _ := flushed(t, d, there, given(run), fuse, keep...)
			try(cut, len(there))
		})
	}
	for _, ahead := range []int{5, 300, 482} {
		d, _ := disk.New(8)
		b, _ := flushed(t, d, nil, []string{filling(ahead)}, 0)
		further(b.d, []string{filling(ahead)}, 0)
	}
	if ways < 10000 {
		t.Errorf("%d ways alone", ways)
	}
}

// P17.5: whatever stands in the sectors from earlier: an elder log's, with the same numbers, full of frames.
func TestWhateverStandsThere(t *testing.T) {
	elder := strings.Repeat(string(frame("")), 100)
	for seed := range uint64(300) {
		r := rand.New(rand.NewPCG(seed, 1705))
		sectors, begin := 2+r.IntN(6), r.Int64N(9)
		b := fresh(t, sectors)
		for range r.IntN(20) {
			b.put(r.Int64N(20), r.Int64N(7), r.Int64N(20*482), []byte(elder[:482-r.IntN(2)*r.IntN(483)]))
		}
		b.open(api.Mark{})
		run := b.l.Mark().Run
		m := mark(begin, r.IntN(482), 50, 7) // 7: no elder run's, and the log's own at least
		b.put(begin+int64(sectors)*3, 6, 0, nil)
		b.wantOpen(m, mark(m.Sector, m.Offset, 50, 7))
		if run > 7 {
			t.Fatalf("the run is %d", run)
		}
		first := filling(5 + r.IntN(101))
		b.append(first)
		b.flush()
		second := strings.Repeat("s", r.IntN(b.l.Room()-8))
		b.append(second)
		keep := make([]bool, sectors)
		for i := range keep {
			keep[i] = r.IntN(2) == 0
		}
		b.d.SetFuse(1+r.IntN(sectors+1), keep...)
		e := b.l.Flush()
		b.power()
		b.open(m)
		l := records(b.l)
		if len(l) < 1 || l[0] != (item{50, first}) || len(l) > 2 || len(l) == 2 && l[1] != (item{51, second}) || len(l) < 2 && e == api.OK {
			t.Fatalf("%s, behind a Flush that answered %d", brief(l), e)
		}
	}
}

// P17.6: Open of what Open answered answers the same; nothing is written.
func TestOpenAgain(t *testing.T) {
	for seed := range uint64(400) {
		x := newLife(t, seed)
		x.early = true
		for range 40 {
			x.act()
			m, calls := x.l.First(), x.d.Calls()
			was := x.d.Clone()
			x.d.Restart()
			one, e := wal.Open(x.d, x.from, x.sectors, m)
			other, again := wal.Open(x.d, x.from, x.sectors, m)
			if e != api.OK || again != api.OK || !slices.Equal(records(one), records(other)) || one.Mark() != other.Mark() || one.First() != m || other.First() != m {
				t.Fatalf("Open at %v again: %d, %s, %v", m, again, brief(records(other)), other.Mark())
			}
			from := one.First()
			third, _ := wal.Open(x.d, x.from, x.sectors, from)
			if !slices.Equal(records(one), records(third)) || x.d.Calls() != calls || !disk.Same(x.d, was) {
				t.Fatalf("Open at %v a third time: %s", from, brief(records(third)))
			}
			end := one.Mark()
			if end.Sector <= maxTS {
				last, e := wal.Open(x.d, x.from, x.sectors, end)
				if e != api.OK || len(records(last)) > 0 {
					t.Fatalf("Open at the end %v: %d, %s", end, e, brief(records(last)))
				}
			}
		}
	}
}
