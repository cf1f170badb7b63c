package wal_test

import (
	"bytes"
	"math"
	"strings"
	"testing"

	"cresset/api"
	"cresset/disk"
)

// The chapter's examples.
func TestExamples(t *testing.T) {
	b := fresh(t, 4)
	if n := b.append("a"); n != 0 {
		t.Errorf("the first number is %d", n)
	}
	b.flush()
	b.wantSector(0, 1, 0, string([]byte{109, 97, 0, 98, 0, 98}))
	b.wantMark(mark(0, 6, 1, 1))
	b = fresh(t, 4)
	b.append(strings.Repeat("x", 477))
	b.flush()
	if calls := b.d.Calls(); calls != 3 {
		t.Errorf("%d writes and barriers for two sectors", calls)
	}
	b.wantSector(0, 1, 0, string(frame(strings.Repeat("x", 477))[:482]))
	b.wantSector(1, 1, 0, string(frame(strings.Repeat("x", 477))[482:]))
	b.wantMark(mark(1, 2, 1, 1))
}

// P17.3: Append's errors, in their order, and its numbers.
func TestAppend(t *testing.T) {
	b := fresh(t, 2)
	long := make([]byte, 65537)
	if n, e := b.l.Append(long...); n != 0 || e != api.ErrLong {
		t.Errorf("Append of 65,537 bytes = %d, %d", n, e)
	}
	if n, e := b.l.Append(long[:65536]...); n != 0 || e != api.ErrFull {
		t.Errorf("Append of 65,536 bytes to two sectors = %d, %d", n, e)
	}
	b = fresh(t, 137) // 66,034 bytes
	if n, e := b.l.Append(long...); n != 0 || e != api.ErrLong {
		t.Errorf("Append of 65,537 bytes = %d, %d", n, e)
	}
	if n := b.append(string(long[:65536])); n != 0 {
		t.Errorf("the first number is %d", n)
	}
	for n := int64(1); n < 40; n++ {
		if got := b.append(strings.Repeat("s", int(n%3))); got != n {
			t.Errorf("the number %d, want %d", got, n)
		}
	}
	if n, e := b.l.Append(); n != 40 || e != api.OK {
		t.Errorf("Append of nothing = %d, %d", n, e)
	}
	if calls := b.d.Calls(); calls != 0 {
		t.Errorf("%d writes and barriers without a Flush", calls)
	}
}

// P17.3: just as many bytes as there is room for, one more, one less; from any place on, and behind a Truncate.
func TestAppendWhenFull(t *testing.T) {
	for _, sectors := range []int{2, 3, 5} {
		for _, offset := range []int{0, 1, 240, 481} {
			for _, sector := range []int64{0, 1, 7, maxTS - 1} {
				for _, ahead := range []int{5, 107, 242, 243, 481, 482} {
					b := fresh(t, sectors)
					b.open(mark(sector, offset, 3, 0))
					room := sectors*482 - offset
					b.wantRoom(room)
					if ahead > room {
						continue
					}
					b.append(filling(ahead))
					b.wantRoom(room - ahead)
					left := room - ahead
					if left < 300 {
						continue
					}
					if n, e := b.l.Append([]byte(filling(left + 1))...); n != 0 || e != api.ErrFull {
						t.Fatalf("Append of %d bytes where %d are left = %d, %d", left+1, left, n, e)
					}
					b.wantRoom(left)
					b.append(filling(left - 10))
					b.wantRoom(10)
					b.append(filling(10))
					b.wantRoom(0)
					if n, e := b.l.Append(); n != 0 || e != api.ErrFull {
						t.Fatalf("Append where nothing is left = %d, %d", n, e)
					}
					b.wantMark(mark(sector+int64(sectors), 0, 6, 1))
					b.truncate(b.place(4))
					at := offset + ahead
					b.wantRoom(at / 482 * 482)
				}
			}
		}
	}
}

func (b *bench) wantRoom(n int) {
	b.t.Helper()
	if got := b.l.Room(); got != n {
		b.t.Fatalf("Room is %d, want %d", got, n)
	}
}

// P17.3: numbers go up to MaxTS.
func TestNumbersEnd(t *testing.T) {
	b := fresh(t, 4)
	b.open(mark(0, 0, maxTS-1, 0))
	for n := int64(maxTS - 1); n <= maxTS; n++ {
		if got := b.append("a"); got != n {
			t.Errorf("the number %d, want %d", got, n)
		}
	}
	for _, l := range [][]byte{nil, {1}, make([]byte, 65536)} {
		if n, e := b.l.Append(l...); n != 0 || e != api.ErrFull {
			t.Errorf("Append behind MaxTS = %d, %d", n, e)
		}
	}
	if n, e := b.l.Append(make([]byte, 65537)...); n != 0 || e != api.ErrLong {
		t.Errorf("Append of too much behind MaxTS = %d, %d", n, e)
	}
	b.wantRoom(0)
	b.flush()
	b.wantMark(mark(0, 12, maxTS+1, 1))
	b.wantRecords(item{maxTS - 1, "a"}, item{maxTS, "a"})
}

// P17.3: what Flush writes: each sector with a byte that is not sure, from the first on, then a barrier.
func TestFlush(t *testing.T) {
	b := fresh(t, 8)
	calls := int64(0)
	flush := func(writes int64) {
		t.Helper()
		b.flush()
		calls += writes + 1
		if got := b.d.Calls(); got != calls {
			t.Fatalf("%d writes and barriers, want %d", got, calls)
		}
		for range b.d.Dirty() {
			t.Fatal("something is not sure behind a Flush")
		}
	}
	b.flush() // nothing was appended: nothing is asked of the disk
	if b.d.Calls() != 0 {
		t.Fatalf("%d calls", b.d.Calls())
	}
	x, y, z := filling(482), filling(100), filling(382)
	b.append(x)
	flush(1)
	b.append(y) // begins just behind a full sector: that one is not written again
	flush(1)
	b.append(z) // fills it
	flush(1)
	b.wantMark(mark(2, 0, 3, 1))
	b.append(filling(481))
	flush(1)
	b.append(filling(5)) // goes over from one to the next
	flush(2)
	b.append(filling(1000))
	flush(3)
	b.flush()
	b.flush()
	if b.d.Calls() != calls {
		t.Fatalf("%d calls behind a Flush of nothing, want %d", b.d.Calls(), calls)
	}
	all := row(0, x, y, z, filling(481), filling(5), filling(1000))
	for i, s := range all {
		b.wantSector(int64(i), 1, 0, string(s))
	}
	b.wantOpen(mark(0, 0, 0, 1), mark(5, 40, 6, 1), x, y, z, filling(481), filling(5), filling(1000))
	b.append("more")
	b.flush()
	for i, s := range all[:5] { // what was full and sure is as it was
		b.wantSector(int64(i), 1, 0, string(s))
	}
	b.wantSector(5, 2, 5*482+40, string(all[5])+string(frame("more")))
}

// P17.3: the number of the run, and where it began, in each sector that is written.
func TestFlushOfLaterRuns(t *testing.T) {
	b := fresh(t, 6)
	held := ""
	for run := int64(1); run < 20; run++ {
		began := int64(len(held))
		b.wantOpen(mark(0, 0, 0, 0), mark(0, len(held), int64(2*(run-1)), max(1, run-1)), firstOf(int(2*(run-1)))...)
		for i := range 2 {
			s := firstOf(40)[2*(run-1)+int64(i)]
			b.append(s)
			b.flush()
			held += string(frame(s))
			b.wantSector(0, run, began, held)
		}
	}
}

// firstOf is so many small records, no two alike.
func firstOf(many int) []string {
	l := make([]string, many)
	for i := range l {
		l[i] = strings.Repeat("q", i%3) + string(rune('a'+i%26))
	}
	return l
}

// P17.3: Flushed is the number below which all is sure.
func TestFlushed(t *testing.T) {
	b := fresh(t, 6)
	want := func(n int64) {
		t.Helper()
		if got := b.l.Flushed(); got != n {
			t.Errorf("Flushed is %d, want %d", got, n)
		}
	}
	want(0)
	b.append("a", "b")
	want(0)
	b.flush()
	want(2)
	b.append("c", strings.Repeat("d", 1000))
	want(2)
	b.truncate(b.place(1))
	want(2)
	b.d.SetFuse(3, true, true, true)
	b.want("Flush", b.l.Flush(), api.ErrDown)
	want(2)
	b.power()
	b.flush()
	want(4)
	b.open(mark(0, 6, 30, 1))
	want(33)
	b.append("e")
	b.truncate(b.l.Mark())
	want(33) // what was not sure is not sure by being cut off
	b.flush()
	want(34)
}

// P17.3: an error ends a Flush, and the next one does all of it again.
func TestFlushErrors(t *testing.T) {
	x := strings.Repeat("x", 1200)
	for n := 1; n <= 4; n++ { // three writes and a barrier
		b := fresh(t, 6)
		b.append("a")
		b.flush()
		b.append(x)
		b.d.SetFuse(n, false, false, false)
		at := b.d.Calls()
		b.want("Flush", b.l.Flush(), api.ErrDown)
		if got := b.d.Calls() - at; got != int64(n) {
			t.Errorf("%d calls up to the fuse, want %d", got, n)
		}
		b.want("Flush", b.l.Flush(), api.ErrDown)
		b.wantRecords(item{0, "a"}, item{1, x})
		if m := b.place(1); m != mark(0, 6, 1, 1) || b.l.Mark() != mark(2, 6+1207-2*482, 2, 1) {
			t.Errorf("behind an error: %v, %v", m, b.l.Mark())
		}
		b.power()
		at = b.d.Calls()
		b.flush()
		if got := b.d.Calls() - at; got != 4 {
			t.Errorf("%d calls, want 4", got)
		}
		b.wantOpen(api.Mark{}, mark(2, 6+1207-2*482, 2, 1), "a", x)
	}
	b := fresh(t, 6) // with nothing to be made sure the power does not count
	b.power()
	b.d.Crash()
	b.flush()
	b.append("a")
	b.want("Flush", b.l.Flush(), api.ErrDown)
}

// P17.3: Head's errors: a sector's number, a run, a beginning above the most. Those ahead are written, nothing is sure.
func TestFlushOfWhatHeadRefuses(t *testing.T) {
	b := fresh(t, 3)
	b.open(mark(maxTS, 0, 0, 0))
	b.append(filling(482), "a") // the second one would be in the sector MaxTS + 1
	for range 2 {
		b.want("Flush", b.l.Flush(), api.ErrArg)
		b.wantSector(maxTS, 1, maxTS*482, string(frame(filling(482))))
		if b.l.Flushed() != 0 {
			t.Errorf("Flushed is %d", b.l.Flushed())
		}
	}
	if dirty := collect(b.d); len(dirty) != 1 || b.d.Calls() != 2 {
		t.Errorf("dirty %v, %d calls", dirty, b.d.Calls())
	}
	b = fresh(t, 3)
	b.open(mark(maxTS, 1, 0, 0))
	b.append("a")
	b.want("Flush", b.l.Flush(), api.ErrArg)
	b = fresh(t, 3)
	b.put(1, maxTS, 0, nil)
	b.open(api.Mark{})
	b.append("a")
	b.wantMark(mark(0, 6, 1, maxTS+1))
	b.want("Flush", b.l.Flush(), api.ErrArg)
	if b.d.Calls() != 2 || b.l.Flushed() != 0 {
		t.Errorf("%d calls, Flushed %d", b.d.Calls(), b.l.Flushed())
	}
	b = fresh(t, 3) // the greatest that may be
	b.put(1, maxTS-1, 0, nil)
	b.open(mark(maxTS, 0, 0, 0))
	b.append("a")
	b.flush()
	b.wantSector(maxTS, maxTS, maxTS*482, string(frame("a")))
}

func collect(d *disk.Disk) []int {
	var l []int
	for at := range d.Dirty() {
		l = append(l, at)
	}
	return l
}

// P17.3, P17.4: places, and the least run of a sector: that with which it was written last and made sure, or the log's.
func TestPlaces(t *testing.T) {
	b := fresh(t, 6)
	wantPlaces := func(l ...api.Mark) {
		t.Helper()
		for _, m := range l {
			if got, ok := b.l.Place(m.Number); got != m || !ok {
				t.Errorf("Place(%d) = %v, %v, want %v", m.Number, got, ok, m)
			}
		}
		b.wantMark(l[len(l)-1])
		for _, n := range []int64{math.MinInt64, -1, l[0].Number - 1, l[len(l)-1].Number + 1, math.MaxInt64} {
			if got, ok := b.l.Place(n); got != (api.Mark{}) || ok {
				t.Errorf("Place(%d) = %v, %v", n, got, ok)
			}
		}
	}
	wantPlaces(mark(0, 0, 0, 1))
	b.append(filling(100), filling(382), filling(500))
	wantPlaces(mark(0, 0, 0, 1), mark(0, 100, 1, 1), mark(1, 0, 2, 1), mark(2, 18, 3, 1))
	b.flush()
	b.open(mark(0, 0, 0, 1))
	wantPlaces(mark(0, 0, 0, 1), mark(0, 100, 1, 1), mark(1, 0, 2, 1), mark(2, 18, 3, 1))
	b.append(filling(600)) // to 3, 136
	wantPlaces(mark(0, 0, 0, 1), mark(0, 100, 1, 1), mark(1, 0, 2, 1), mark(2, 18, 3, 1), mark(3, 136, 4, 2))
	b.d.SetFuse(3)
	b.want("Flush", b.l.Flush(), api.ErrDown)
	b.power()
	wantPlaces(mark(0, 0, 0, 1), mark(0, 100, 1, 1), mark(1, 0, 2, 1), mark(2, 18, 3, 1), mark(3, 136, 4, 2))
	b.flush()
	wantPlaces(mark(0, 0, 0, 1), mark(0, 100, 1, 1), mark(1, 0, 2, 1), mark(2, 18, 3, 2), mark(3, 136, 4, 2))
	b.truncate(mark(1, 0, 2, 1))
	wantPlaces(mark(1, 0, 2, 1), mark(2, 18, 3, 2), mark(3, 136, 4, 2))
	b.open(mark(1, 0, 2, 1))
	b.append(filling(10), filling(336))
	wantPlaces(mark(1, 0, 2, 1), mark(2, 18, 3, 2), mark(3, 136, 4, 2), mark(3, 146, 5, 2), mark(4, 0, 6, 3))
	b.flush()
	wantPlaces(mark(1, 0, 2, 1), mark(2, 18, 3, 2), mark(3, 136, 4, 3), mark(3, 146, 5, 3), mark(4, 0, 6, 3))
	b.truncate(b.l.Mark())
	wantPlaces(mark(4, 0, 6, 3))
}

// P17.2, P17.4: a sector that was there, but has nothing of the log, was not made sure: its least run is the log's.
func TestTheLeastRunOfWhatWasCut(t *testing.T) {
	b := fresh(t, 6)
	x := strings.Repeat("x", 1300)
	for i, s := range row(0, filling(100), x)[:2] {
		b.put(int64(i), 4, 0, s)
	}
	b.wantOpen(api.Mark{}, mark(0, 100, 1, 4), filling(100))
	b.append(filling(200), filling(282), filling(50))
	for _, m := range []api.Mark{mark(0, 100, 1, 4), mark(0, 300, 2, 4), mark(1, 100, 3, 5), mark(1, 150, 4, 5)} {
		if got := b.place(m.Number); got != m {
			t.Errorf("Place(%d) = %v, want %v", m.Number, got, m)
		}
	}
	b = fresh(t, 6)
	for i, s := range row(0, filling(482), x)[:2] {
		b.put(int64(i), 4, 0, s)
	}
	b.wantOpen(api.Mark{}, mark(1, 0, 1, 5), filling(482))
}

// P17.4: Truncate takes the places of records, and Mark, with a run that is not above theirs.
func TestTruncate(t *testing.T) {
	made := func() *bench {
		b := fresh(t, 6)
		b.append(filling(300), filling(300))
		b.flush()
		b.open(api.Mark{})
		b.append(filling(300), filling(300))
		return b
	}
	places := []api.Mark{mark(0, 0, 0, 1), mark(0, 300, 1, 1), mark(1, 118, 2, 1), mark(1, 418, 3, 1), mark(2, 236, 4, 2)}
	for i, m := range places {
		for _, run := range []int64{math.MinInt64, -1, 0, 1, 2, 3, maxTS, maxTS + 1, math.MaxInt64} {
			b := made()
			at := m
			at.Run = run
			if run > m.Run {
				b.want("Truncate", b.l.Truncate(at), api.ErrLog)
				b.wantFirst(api.Mark{}, 4)
				continue
			}
			b.truncate(at)
			b.wantFirst(at, 4-i)
			b.wantMark(places[4])
			b.wantRoom(6*482 - 1200 + int(at.Sector)*482)
		}
	}
	b := made()
	for _, m := range places {
		for _, wrong := range []api.Mark{
			mark(m.Sector+1, m.Offset, m.Number, 0), mark(m.Sector-1, m.Offset, m.Number, 0), mark(m.Sector+6, m.Offset, m.Number, 0),
			mark(m.Sector, m.Offset+1, m.Number, 0), mark(m.Sector, m.Offset-1, m.Number, 0), mark(m.Sector, m.Offset+482, m.Number, 0),
			mark(m.Sector, m.Offset, m.Number+1, 0), mark(m.Sector, m.Offset, m.Number-1, 0), mark(m.Sector-1, m.Offset+482, m.Number, 0),
			mark(m.Sector, m.Offset, math.MaxInt64, 0), mark(m.Sector, m.Offset, math.MinInt64, 0), mark(math.MaxInt64, math.MaxInt, 1, 0),
			mark(m.Sector, m.Offset, m.Number, m.Run+1),
		} {
			b.want("Truncate", b.l.Truncate(wrong), api.ErrLog)
		}
	}
	b.wantFirst(api.Mark{}, 4)
	b.truncate(places[2])
	for _, m := range places[:2] { // they are the log's no more
		b.want("Truncate", b.l.Truncate(m), api.ErrLog)
	}
	b.truncate(places[2])
	b.wantFirst(places[2], 2)
	if calls := b.d.Calls(); calls != 3 {
		t.Errorf("%d calls, want those of one Flush", calls)
	}
}

func (b *bench) wantFirst(m api.Mark, many int) {
	b.t.Helper()
	if got, l := b.l.First(), records(b.l); got != m || len(l) != many || many > 0 && l[0].number != m.Number {
		b.t.Fatalf("First is %v, and there are %s; want %v, %d", got, brief(l), m, many)
	}
}

// P17.3, P17.4: behind a Truncate what stands ahead of the first record in its sector is written as it was, and so an earlier mark in it still finds all.
func TestWhatStandsAheadStays(t *testing.T) {
	b := fresh(t, 4)
	l := firstOf(9)
	b.append(l...)
	b.flush()
	marks := []api.Mark{}
	for n := range int64(9) {
		marks = append(marks, b.place(n))
	}
	b.truncate(marks[6])
	b.append("x")
	b.flush()
	b.open(marks[7])
	b.append("y")
	b.flush()
	b.truncate(b.l.Mark())
	b.append("z")
	b.flush()
	for n, m := range marks {
		b.wantOpen(m, mark(0, b.l.Mark().Offset, 12, 2), append(append([]string{}, l[n:]...), "x", "y", "z")...)
	}
}

// P17.3: records that are cut off ahead of being sure are not written, but for what stands ahead in the first one's sector.
func TestFlushOfWhatIsCutOff(t *testing.T) {
	x := filling(1000)
	for _, more := range []string{"", "more"} {
		b := fresh(t, 6)
		b.append(x)
		b.truncate(b.l.Mark())
		wanted := int64(2)
		held := string(frame(x)[964:])
		if more != "" {
			b.append(more)
			held += string(frame(more))
		}
		b.flush()
		b.wantSector(2, 1, 0, held)
		if got := b.d.Calls(); got != wanted {
			t.Errorf("%d calls, want %d", got, wanted)
		}
		if b.sector(0).e == api.OK || b.sector(1).e == api.OK {
			t.Error("what is the log's no more was written")
		}
	}
	b := fresh(t, 6) // nothing is left to be written, but the barrier is asked for
	b.append(filling(482))
	b.truncate(b.l.Mark())
	b.d.SetFuse(1)
	b.want("Flush", b.l.Flush(), api.ErrDown)
	b.power()
	b.flush()
	b.flush()
	if got := b.d.Calls(); got != 2 || b.l.Flushed() != 1 {
		t.Errorf("%d calls, Flushed %d", got, b.l.Flushed())
	}
}

// P17.3, P17.4: the row goes round and round the ring.
func TestRoundTheRing(t *testing.T) {
	for _, sectors := range []int{2, 3, 7} {
		b := fresh(t, sectors)
		all := []string{}
		for i := range 300 {
			s := strings.Repeat(string(rune('a'+i%26)), (i*i+11*i)%400)
			if b.l.Room() < len(frame(s)) {
				b.flush()
				b.truncate(b.l.Mark())
			}
			if n := b.append(s); n != int64(i) {
				t.Fatalf("the number %d, want %d", n, i)
			}
			all = append(all, s)
			if i%3 == 0 {
				b.flush()
				b.wantOpen(b.l.First(), b.l.Mark(), all[b.l.First().Number:]...)
			}
		}
		if m := b.l.Mark(); m.Sector < 100 {
			t.Errorf("the ring was gone round too seldom: %v", m)
		}
		for _, at := range []int{0, sectors + 1} {
			if s, _ := b.d.Read(at); !bytes.Equal(s, make([]byte, 512)) {
				t.Errorf("the sector %d, which is not the log's, was written to", at)
			}
		}
	}
}
