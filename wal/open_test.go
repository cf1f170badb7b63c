package wal_test

import (
	"bytes"
	"math"
	"slices"
	"strings"
	"testing"

	"cresset/api"
	"cresset/disk"
	"cresset/wal"
)

func wantNoLog(t *testing.T, d *disk.Disk, from, sectors int, m api.Mark, wanted api.Errno) {
	t.Helper()
	if l, e := wal.Open(d, from, sectors, m); l != nil || e != wanted {
		t.Errorf("Open(%d, %d, %v) = %v, %d, want error %d alone", from, sectors, m, l, e, wanted)
	}
}

// P17.2: each error, and which one is told first.
func TestOpenErrors(t *testing.T) {
	good := api.Mark{}
	for _, d := range []*disk.Disk{nil, {}, new(disk.Disk)} {
		wantNoLog(t, d, 0, 2, good, api.ErrMade)
		wantNoLog(t, d, -1, 0, mark(-1, -1, -1, -1), api.ErrMade)
	}
	d, _ := disk.New(6)
	for _, c := range [][2]int{{-1, 2}, {math.MinInt, 2}, {0, 1}, {0, 0}, {0, -1}, {0, math.MinInt}, {0, 7}, {1, 6}, {4, 3}, {5, 2}, {6, 2}, {7, 2}, {100, 2}, {math.MaxInt, 2}, {2, math.MaxInt}, {math.MaxInt, math.MaxInt}, {math.MinInt, math.MinInt}} {
		wantNoLog(t, d, c[0], c[1], good, api.ErrLog)
	}
	wrong := []api.Mark{mark(0, 482, 0, 0), mark(0, -1, 0, 0), mark(0, math.MinInt, 0, 0), mark(0, math.MaxInt, 0, 0), mark(0, 512, 0, 0)}
	for _, n := range []int64{-1, math.MinInt64, maxTS + 1, math.MaxInt64} {
		wrong = append(wrong, mark(n, 0, 0, 0), mark(0, 0, n, 0), mark(0, 0, 0, n))
	}
	for _, m := range wrong {
		wantNoLog(t, d, 0, 6, m, api.ErrLog)
	}
	for _, c := range [][2]int{{0, 2}, {0, 6}, {4, 2}, {1, 5}} {
		for _, m := range []api.Mark{good, mark(maxTS, 481, maxTS, maxTS), mark(7, 0, 3, 1)} {
			if l, e := wal.Open(d, c[0], c[1], m); l == nil || e != api.OK {
				t.Errorf("Open(%d, %d, %v) = %v, %d", c[0], c[1], m, l, e)
			}
		}
	}
	d.Crash()
	wantNoLog(t, d, 0, 2, good, api.ErrDown)
	wantNoLog(t, d, 0, 7, good, api.ErrLog)
	wantNoLog(t, d, 0, 2, wrong[0], api.ErrLog)
}

// P17.2: a fresh disk; nothing is written.
func TestOpenOfAFreshDisk(t *testing.T) {
	for _, m := range []api.Mark{{}, mark(5, 7, 9, 1), mark(maxTS, 481, maxTS, maxTS)} {
		b := fresh(t, 4)
		b.wantOpen(m, mark(m.Sector, m.Offset, m.Number, 1))
		if n := b.d.Calls(); n != 0 {
			t.Errorf("Open at %v has made %d calls", m, n)
		}
	}
}

// row is the frames of records, one behind the other, cut into what sectors hold.
func row(ahead int, l ...string) [][]byte {
	b := make([]byte, ahead)
	for _, s := range l {
		b = append(b, frame(s)...)
	}
	return slices.Collect(slices.Chunk(b, 482))
}

// P17.2: records that stand in one sector, and over many; from a place within, too.
func TestOpenReadsWhatIsThere(t *testing.T) {
	l := []string{"a", "", strings.Repeat("b", 1000), filling(300), strings.Repeat("c", 100), strings.Repeat("d", 101)}
	for _, ahead := range []int{0, 1, 200, 481} {
		b := fresh(t, 6)
		for i, s := range row(ahead, l...) {
			b.put(int64(i)+20, 3, 0, s)
		}
		at, n := 20*482+ahead, 0
		for k := range len(l) + 1 {
			m := mark(int64(at/482), at%482, int64(70+k), 3)
			end := 20*482 + ahead
			for _, s := range l {
				end += len(frame(s))
			}
			b.wantOpen(m, mark(int64(end/482), end%482, int64(70+len(l)), 3), l[k:]...)
			if k < len(l) {
				n++
				at += len(frame(l[k]))
			}
		}
		if n != len(l) {
			t.Errorf("%d places were tried", n)
		}
	}
}

// P17.2: the run is one more than the greatest of all sectors that can be read, whichever they are.
func TestTheRun(t *testing.T) {
	for _, c := range []struct {
		runs   []int64
		wanted int64
	}{
		{[]int64{0}, 1},
		{[]int64{5, 1, 2}, 6},
		{[]int64{1, 2, 5}, 6},
		{[]int64{1, 5, 2}, 6},
		{[]int64{maxTS, 0}, maxTS + 1},
		{[]int64{3, 3}, 4},
	} {
		b := fresh(t, 4)
		for i, run := range c.runs {
			b.put(int64(1000+4*i+i), run, 0, nil) // of none of them the number is asked for
		}
		b.wantOpen(api.Mark{}, mark(0, 0, 0, c.wanted))
		spoilt := paperSector(0, 100, 0, 0, nil)
		spoilt[40] = 1
		b.raw(3, spoilt)
		b.wantOpen(api.Mark{}, mark(0, 0, 0, c.wanted))
		wrong := paperSector(0, 1<<50, 0, 0, nil)
		b.raw(3, wrong)
		b.wantOpen(api.Mark{}, mark(0, 0, 0, c.wanted))
	}
	b := fresh(t, 2) // sectors ahead of the ring and behind it are another's
	b.raw(-1, paperSector(0, 8, 0, 0, nil))
	b.raw(2, paperSector(1, 9, 0, 0, nil))
	b.wantOpen(api.Mark{}, mark(0, 0, 0, 1))
}

// a row of three full sectors, each of which holds one record, to which things are done that end it.
func threeSectors(t *testing.T, spoil func(b *bench)) *bench {
	b := fresh(t, 4)
	for i := range int64(3) {
		b.put(8+i, 5, 0, frame(filling(482)))
	}
	spoil(b)
	return b
}

// P17.2: which sectors count.
func TestWhichSectorsCount(t *testing.T) {
	x := filling(482)
	f := frame(x)
	full := []string{x, x, x}
	spoil := func(number int64, what func(s []byte)) func(b *bench) {
		return func(b *bench) {
			s, _ := b.d.Read(b.from + int(number%4))
			what(s)
			b.raw(int(number%4), s)
		}
	}
	for _, c := range []struct {
		why   string
		m     api.Mark
		spoil func(b *bench)
		many  int
	}{
		{"nothing is spoilt", mark(8, 0, 0, 5), func(b *bench) {}, 3},
		{"a least run below", mark(8, 0, 0, 0), func(b *bench) {}, 3},
		{"a least run above", mark(8, 0, 0, 6), func(b *bench) {}, 0},
		{"a lesser number", mark(4, 0, 0, 0), func(b *bench) {}, 0},
		{"a greater number", mark(12, 0, 0, 0), func(b *bench) {}, 0},
		{"the first one spoilt", mark(8, 0, 0, 5), spoil(8, func(s []byte) { s[100]++ }), 0},
		{"the second one spoilt", mark(8, 0, 0, 5), spoil(9, func(s []byte) { s[0]++ }), 1},
		{"the third one noughts", mark(8, 0, 0, 5), spoil(10, func(s []byte) { clear(s) }), 2},
		{"the second one of another number", mark(8, 0, 0, 5), func(b *bench) { b.raw(1, paperSector(13, 5, 0, 482, f)) }, 1},
		{"the second one of the number ahead of it in the ring", mark(8, 0, 0, 5), func(b *bench) { b.raw(1, paperSector(5, 5, 0, 482, f)) }, 1},
		{"the second one's run below", mark(8, 0, 0, 0), func(b *bench) { b.put(9, 4, 0, f) }, 1},
		{"the third one's run below that of the second", mark(8, 0, 0, 5), func(b *bench) { b.put(9, 7, 9*482, f); b.put(10, 6, 9*482, f) }, 2},
		{"runs that rise", mark(8, 0, 0, 5), func(b *bench) { b.put(9, 7, 9*482, f); b.put(10, 8, 10*482, f) }, 3},
		{"the first one's run above", mark(8, 0, 0, 5), func(b *bench) { b.put(8, 9, 0, f) }, 1},
		{"a fourth", mark(8, 0, 0, 5), func(b *bench) { b.put(11, 5, 0, f) }, 4},
		{"the second one not full", mark(8, 0, 0, 5), func(b *bench) { b.put(9, 5, 0, frame("x")) }, 2},
		{"the first one empty", mark(8, 0, 0, 5), func(b *bench) { b.put(8, 5, 0, nil) }, 0},
	} {
		t.Run(c.why, func(t *testing.T) {
			b := threeSectors(t, c.spoil)
			b.open(c.m)
			wanted := append(slices.Clone(full), x)[:c.many]
			if c.why == "the second one not full" {
				wanted = []string{x, "x"}
			}
			var l []item
			for i, s := range wanted {
				l = append(l, item{int64(i), s})
			}
			b.wantRecords(l...)
		})
	}
}

// P17.2: the row goes round the ring, and no sector counts twice.
func TestOpenEndsBehindSectorsMany(t *testing.T) {
	x := filling(482)
	for begin := range int64(9) {
		b := fresh(t, 4)
		for i := range int64(4) {
			b.put(begin+i, 2, 0, frame(x))
		}
		b.wantOpen(mark(begin, 0, begin, 1), mark(begin+4, 0, begin+4, 3), x, x, x, x)
		if b.l.Room() != 0 {
			t.Errorf("Room is %d", b.l.Room())
		}
		b.wantOpen(mark(begin+3, 0, begin, 1), mark(begin+4, 0, begin+1, 3), x)
	}
}

// P17.2: where a run began: what stands behind that byte was written by an elder run.
func TestWhereARunBegan(t *testing.T) {
	// two sectors of the run 3, with six records of 150 bytes, and 64 bytes of a seventh; the third one is of the run 4
	x := filling(150)
	elder := row(0, x, x, x, x, x, x, x)
	third := frame(filling(30))
	const begin = 50 * 482
	for began := int64(begin - 700); began <= begin+3*482; began++ {
		b := fresh(t, 5)
		b.put(50, 3, 0, elder[0])
		b.put(51, 3, 0, elder[1])
		b.put(52, 4, began, append(bytes.Clone(elder[2]), third...))
		whole := 7
		wanted := []string{x, x, x, x, x, x, x, filling(30)}
		if began < begin+2*482 {
			whole = max(0, int(began-begin)/150)
			wanted = wanted[:whole]
		}
		end := begin + 150*whole
		run := int64(3)
		if began >= begin+2*482 {
			end, run = begin+7*150+30, 4
		}
		b.wantOpen(mark(50, 0, 9, 3), mark(int64(end/482), end%482, int64(9+len(wanted)), endRun(end, run)), wanted...)
	}
}

// endRun is the run of the sector in which a row of TestWhereARunBegan ends: at the beginning of one nothing is there yet.
func endRun(end int, run int64) int64 {
	if end%482 == 0 {
		return 5
	}
	return run
}

// P17.2: it is of a sector but the first one, whose run is above that of the one ahead of it, and that would count else.
func TestWhereARunBeganIsAsked(t *testing.T) {
	x := filling(241)
	two := append(frame(x), frame(x)...)
	for _, c := range []struct {
		why  string
		fill func(b *bench)
		many int
	}{
		{"the first one's does not count", func(b *bench) { b.put(0, 9, 0, two); b.put(1, 9, 0, two); b.put(2, 9, 241, two) }, 6},
		{"at the same run it does not count", func(b *bench) { b.put(0, 2, 0, two); b.put(1, 2, 241, two); b.put(2, 2, 241, two) }, 6},
		{"the third one's counts", func(b *bench) { b.put(0, 2, 0, two); b.put(1, 3, 482, two); b.put(2, 4, 241, two) }, 1},
		{"the second one's counts, and nothing behind it", func(b *bench) { b.put(0, 2, 0, two); b.put(1, 3, 241, two); b.put(2, 3, 964, two) }, 1},
		{"one that does not count by its number", func(b *bench) { b.put(0, 2, 0, two); b.raw(1, paperSector(4, 3, 241, 482, two)) }, 2},
		{"one that does not count by its sum", func(b *bench) {
			s := paperSector(1, 3, 241, 482, two)
			s[511]++
			b.put(0, 2, 0, two)
			b.raw(1, s)
		}, 2},
		{"one that does not count by its run", func(b *bench) { b.put(0, 2, 0, two); b.put(1, 1, 241, two) }, 2},
		{"one behind a sector that is not full", func(b *bench) { b.put(0, 2, 0, two[:481]); b.put(1, 3, 0, two) }, 1},
		{"one behind a sector that is not there", func(b *bench) { b.put(0, 2, 0, two); b.put(2, 3, 0, two) }, 2},
		{"an empty one", func(b *bench) { b.put(0, 2, 0, two); b.put(1, 3, 0, nil) }, 0},
		{"just at its beginning", func(b *bench) { b.put(0, 2, 0, two); b.put(1, 3, 482, two) }, 4},
		{"one byte ahead of that", func(b *bench) { b.put(0, 2, 0, two); b.put(1, 3, 481, two) }, 1},
		{"behind all", func(b *bench) { b.put(0, 2, 0, two); b.put(1, 3, maxBegan, two) }, 4},
	} {
		t.Run(c.why, func(t *testing.T) {
			b := fresh(t, 3)
			c.fill(b)
			b.open(api.Mark{})
			if got := records(b.l); len(got) != c.many {
				t.Errorf("%d records, want %d", len(got), c.many)
			}
		})
	}
}

// P17.2, P17.3: a run that began ahead of the mark leaves nothing; of what stands ahead of the mark, the row has what is ahead of where that run began, and what is behind that is written as noughts.
func TestARunThatBeganAheadOfTheMark(t *testing.T) {
	x := filling(150)
	l := row(0, x, x, x, x)
	for began := range 303 {
		b := fresh(t, 4)
		b.put(0, 3, 0, l[0])
		b.put(1, 4, int64(began), l[1])
		b.wantOpen(mark(0, 300, 2, 3), mark(0, 300, 2, 3))
		b.append("new")
		b.flush()
		had := min(began, 300)
		b.wantSector(0, 5, 300, string(l[0][:had])+strings.Repeat("\x00", 300-had)+string(frame("new")))
		b.wantOpen(mark(0, 300, 2, 3), mark(0, 308, 3, 5), "new")
		switch had / 150 {
		case 0:
			b.wantOpen(api.Mark{}, mark(0, 0, 0, 6))
		case 1:
			b.wantOpen(api.Mark{}, mark(0, 150, 1, 5), x)
		case 2:
			b.wantOpen(api.Mark{}, mark(0, 308, 3, 5), x, x, "new")
		}
	}
}

// P17.2, P17.3: so it is where a sector farther behind tells of that run, and where the run began ahead of the row.
func TestARunThatBeganAheadOfTheRow(t *testing.T) {
	x := filling(150)
	l := row(0, x, x, x, x, x, x, x, x, x, x) // more than three sectors
	const begin = 9 * 482
	for _, c := range []struct {
		began int64
		had   int
	}{{0, 0}, {1, 0}, {begin - 482, 0}, {begin - 1, 0}, {begin, 0}, {begin + 1, 1}, {begin + 299, 299}, {begin + 300, 300}, {begin + 301, 300}, {begin + 449, 300}} {
		for many := range 3 { // sectors of the elder run behind the first one
			b := fresh(t, 5)
			for i := range many + 1 {
				b.put(int64(9+i), 3, 0, l[i])
			}
			b.put(int64(10+many), 4, c.began, l[1])
			b.wantOpen(mark(9, 300, 2, 3), mark(9, 300, 2, 3))
			b.append("new")
			b.flush()
			b.wantSector(9, 5, begin+300, string(l[0][:c.had])+strings.Repeat("\x00", 300-c.had)+string(frame("new")))
		}
	}
}

// P17.2: from the mark's offset on, if the sector has so many bytes; what is ahead of it is noughts where none was read.
func TestTheOffset(t *testing.T) {
	for _, held := range []int{0, 1, 99, 100, 101, 106} {
		b := fresh(t, 4)
		l := append(bytes.Repeat([]byte{9}, 100), frame("a")...)[:held]
		b.put(3, 2, 0, l)
		m := mark(3, 100, 7, 2)
		if held == 106 {
			b.wantOpen(m, mark(3, 106, 8, 2), "a")
			continue
		}
		b.wantOpen(m, mark(3, 100, 7, 2))
		b.append("b")
		b.flush()
		b.wantSector(3, 3, 3*482+100, string(l[:min(held, 100)])+strings.Repeat("\x00", 100-min(held, 100))+string(frame("b")))
	}
	b := fresh(t, 4) // a sector that does not count was not read as this one
	b.put(3, 2, 0, bytes.Repeat([]byte{9}, 300))
	b.wantOpen(mark(7, 100, 1, 0), mark(7, 100, 1, 3))
	b.append("b")
	b.flush()
	b.wantSector(7, 3, 7*482+100, strings.Repeat("\x00", 100)+string(frame("b")))
}

// P17.2: the log ends where a frame is none, or is too long.
func TestWhereFramesEnd(t *testing.T) {
	good := append(frame("one"), frame("two")...)
	spoilt := frame("three")
	spoilt[3]++
	for _, c := range [][]byte{{0}, {107}, {108}, {108, 0, 0, 0}, {108, 0, 0, 0, 0}, {109, 97, 0, 98, 0}, {216, 255}, {217}, {209, 100}, spoilt, frame("three")[:9], {212, 1, 0, 0, 0}} {
		b := fresh(t, 3)
		b.put(0, 1, 0, slices.Concat(good, c, frame("behind")))
		b.wantOpen(api.Mark{}, mark(0, 16, 2, 1), "one", "two")
	}
	for _, most := range []int{65535, 65536, 65537, 65600} {
		b := fresh(t, 140)
		long := strings.Repeat("v", most)
		for i, s := range row(0, "one", long, "behind") {
			b.put(int64(i), 1, 0, s)
		}
		if most > 65536 {
			b.wantOpen(api.Mark{}, mark(0, 8, 1, 1), "one")
			continue
		}
		end := 8 + len(frame(long)) + 11
		b.wantOpen(api.Mark{}, mark(int64(end/482), end%482, 3, 1), "one", long, "behind")
	}
}

// P17.2: a record that the crash has cut, sector by sector; the numbers of the next ones go on.
func TestACutRecord(t *testing.T) {
	x := strings.Repeat("x", 1500)
	l := row(0, "a", x)
	for many := range 5 {
		b := fresh(t, 6)
		for i, s := range l[:min(many, len(l))] {
			b.put(int64(i), 1, 0, s)
		}
		switch {
		case many == 0:
			b.wantOpen(mark(0, 0, 3, 0), mark(0, 0, 3, 1))
		case many < len(l):
			b.wantOpen(mark(0, 0, 3, 0), mark(0, 6, 4, 1), "a")
		default:
			b.wantOpen(mark(0, 0, 3, 0), mark(3, 1513-3*482, 5, 1), "a", x)
		}
	}
}

// P17.2: the numbers of records are those from the mark's on, also above MaxTS.
func TestNumbersOfRecords(t *testing.T) {
	b := fresh(t, 3)
	b.put(0, 1, 0, slices.Concat(frame("a"), frame("b")))
	b.wantOpen(mark(0, 0, maxTS, 1), mark(0, 12, maxTS+2, 1), "a", "b")
	b.wantOpen(mark(0, 0, 77, 1), mark(0, 12, 79, 1), "a", "b")
}
