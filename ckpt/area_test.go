package ckpt_test

import (
	"bytes"
	"fmt"
	"math"
	"slices"
	"strconv"
	"strings"
	"testing"

	"cresset/api"
	"cresset/ckpt"
	"cresset/codec"
	"cresset/disk"
	"cresset/record"
)

const maxTS = 1 << 40

var (
	longKey   = strings.Repeat("k", 64)
	longValue = strings.Repeat("v", 256)
)

func want(t *testing.T, what string, got, wanted api.Errno) {
	t.Helper()
	if got != wanted {
		t.Fatalf("%s: error %d, want %d", what, got, wanted)
	}
}

func newDisk(t *testing.T, sectors int) *disk.Disk {
	t.Helper()
	d, e := disk.New(sectors)
	want(t, "a disk", e, api.OK)
	return d
}

func name(i int) string { return fmt.Sprintf("%07d", i) }

func pair(key, value string, ts int64) api.Stamped {
	return api.Stamped{Key: key, Value: value, TS: ts}
}

// from are n pairs whose keys rise, from that of a number on.
func from(at, n int) []api.Stamped {
	var l []api.Stamped
	for i := range n {
		l = append(l, pair(name(at+i), "v", 5))
	}
	return l
}

func rising(n int) []api.Stamped { return from(0, n) }

// great is the chunk with the most bytes.
func great(number int) api.Chunk {
	c := api.Chunk{Number: number, Last: true}
	for i := range 16 {
		c.List = append(c.List, pair(longKey[:57]+name(i), longValue, maxTS))
	}
	return c
}

func bytesOf(t *testing.T, d *disk.Disk, from, sectors int) []byte {
	t.Helper()
	var b []byte
	for at := from; at < from+sectors; at++ {
		s, e := d.Read(at)
		want(t, "Read of the disk", e, api.OK)
		b = append(b, s...)
	}
	return b
}

// lay puts bytes on a disk, with noughts behind them up to a sector's end.
func lay(t *testing.T, d *disk.Disk, at int, b []byte) {
	t.Helper()
	for ; len(b) > 0; at++ {
		s := make([]byte, 512)
		b = b[copy(s, b):]
		want(t, "Write of the disk", d.Write(at, s...), api.OK)
	}
}

func fill(t *testing.T, d *disk.Disk, with byte) {
	t.Helper()
	for at := range d.Sectors() {
		want(t, "Write of the disk", d.Write(at, bytes.Repeat([]byte{with}, 512)...), api.OK)
	}
	want(t, "Barrier", d.Barrier(), api.OK)
}

func wantPairs(t *testing.T, what string, got []api.Stamped, wanted ...api.Stamped) {
	t.Helper()
	if !slices.Equal(got, wanted) {
		t.Fatalf("%s: %v, want %v", what, got, wanted)
	}
}

func wantChunk(t *testing.T, d *disk.Disk, a api.Area, n int, wanted api.Chunk) {
	t.Helper()
	got, e := ckpt.Read(d, a, n)
	if e != api.OK || !record.SameChunk(got, wanted) {
		t.Fatalf("the chunk %d is %v, %d, want %v", n, got, e, wanted)
	}
}

func refuseRead(t *testing.T, what string, d *disk.Disk, a api.Area, n int, wanted api.Errno) {
	t.Helper()
	got, e := ckpt.Read(d, a, n)
	if e != wanted || got.Number != 0 || got.List != nil || got.Last {
		t.Fatalf("Read, %s: %v, %d, want error %d alone", what, got, e, wanted)
	}
}

func wantLoad(t *testing.T, what string, d *disk.Disk, a api.Area, chunks int, wanted ...api.Stamped) {
	t.Helper()
	got, e := ckpt.Load(d, a, chunks)
	want(t, what, e, api.OK)
	wantPairs(t, what, got, wanted...)
}

func refuseLoad(t *testing.T, what string, d *disk.Disk, a api.Area, chunks int, wanted api.Errno) {
	t.Helper()
	if got, e := ckpt.Load(d, a, chunks); e != wanted || got != nil {
		t.Fatalf("Load, %s: %v, %d, want error %d alone", what, got, e, wanted)
	}
}

// P19.1: each edge of an area, on disks of many sizes.
func TestCheck(t *testing.T) {
	for _, c := range []struct {
		from, chunks, sectors int
		want                  api.Errno
	}{
		{0, 1, 12, api.OK}, {0, 1, 11, api.ErrArea}, {0, 1, 13, api.OK},
		{3, 2, 27, api.OK}, {3, 2, 26, api.ErrArea}, {4, 2, 27, api.ErrArea}, {2, 2, 27, api.OK},
		{-1, 1, 100, api.ErrArea}, {0, 0, 100, api.ErrArea}, {0, -1, 100, api.ErrArea}, {50, -1, 100, api.ErrArea},
		{88, 1, 100, api.OK}, {89, 1, 100, api.ErrArea}, {100, 1, 100, api.ErrArea}, {112, 1, 100, api.ErrArea},
		{0, 8, 100, api.OK}, {0, 9, 100, api.ErrArea}, {4, 8, 100, api.OK}, {5, 8, 100, api.ErrArea},
		{0, 1365, 16384, api.OK}, {4, 1365, 16384, api.OK}, {5, 1365, 16384, api.ErrArea}, {0, 1366, 16384, api.ErrArea},
		{0, 4096, 4096 * 12, api.OK}, {0, 4096, 4096*12 - 1, api.ErrArea}, {0, 4097, 1 << 40, api.ErrArea}, {0, 4096, math.MaxInt, api.OK},
		{0, 1, 0, api.ErrArea}, {0, 1, -1, api.ErrArea}, {0, 1, math.MinInt, api.ErrArea}, {5, 1, math.MinInt, api.ErrArea},
		{math.MaxInt, 1, math.MinInt, api.ErrArea}, {math.MaxInt, 1, math.MaxInt, api.ErrArea}, {math.MaxInt, 4096, 100, api.ErrArea},
		{math.MaxInt - 12, 1, math.MaxInt, api.OK}, {math.MaxInt - 11, 1, math.MaxInt, api.ErrArea},
		{math.MinInt, 1, 100, api.ErrArea}, {math.MinInt, 1, math.MinInt, api.ErrArea},
		{0, math.MinInt, 100, api.ErrArea}, {0, math.MaxInt, 100, api.ErrArea}, {0, math.MaxInt/12 + 1, 100, api.ErrArea},
	} {
		want(t, fmt.Sprint(c), ckpt.Check(api.Area{From: c.from, Chunks: c.chunks}, c.sectors), c.want)
	}
	for from := -3; from < 40; from++ {
		for chunks := -3; chunks < 5; chunks++ {
			for sectors := -3; sectors < 60; sectors++ {
				wanted := api.ErrArea
				if from >= 0 && chunks >= 1 && from+12*chunks <= sectors {
					wanted = api.OK
				}
				want(t, fmt.Sprint(from, chunks, sectors), ckpt.Check(api.Area{From: from, Chunks: chunks}, sectors), wanted)
			}
		}
	}
}

// P19.1, P19.2: the chunk n stands in 12 sectors from From + 12 n on; just the sectors that its frame needs are written.
func TestWhereAChunkStands(t *testing.T) {
	for _, from := range []int{0, 1, 3, 11, 12, 13} {
		a := api.Area{From: from, Chunks: 4}
		for n := range 4 {
			for pairs := range 17 {
				for _, value := range []string{"", "v", longValue} {
					d := newDisk(t, from+50)
					fill(t, d, 0xEE)
					calls := d.Calls()
					c := api.Chunk{Number: n, Last: pairs%2 == 0}
					for i := range pairs {
						c.List = append(c.List, pair(name(i), value, int64(1+i)))
					}
					held, _ := record.Chunk(c)
					frame, _ := codec.Frame(held)
					needs := (len(frame) + 511) / 512
					want(t, "Write", ckpt.Write(d, a, c), api.OK)
					wanted := bytes.Repeat([]byte{0xEE}, (from+50)*512)
					at := (from + 12*n) * 512
					clear(wanted[at : at+needs*512])
					copy(wanted[at:], frame)
					if !bytes.Equal(bytesOf(t, d, 0, from+50), wanted) {
						t.Fatalf("other bytes of %v from %d on", c, from)
					}
					if d.Calls() != calls+int64(needs) {
						t.Fatalf("%d calls for %d sectors", d.Calls()-calls, needs)
					}
					dirty := slices.Collect(d.Dirty())
					if len(dirty) != needs || dirty[0] != from+12*n || dirty[needs-1] != from+12*n+needs-1 {
						t.Fatalf("dirty are %v: there is no barrier, and %d sectors from %d on", dirty, needs, from+12*n)
					}
					wantChunk(t, d, a, n, c)
				}
			}
		}
	}
}

// P19.2: the greatest chunk, and frames that just fill a sector or need a byte of the next one.
func TestFramesOfEachLength(t *testing.T) {
	a := api.Area{From: 2, Chunks: 2}
	needed := map[int]bool{}
	for long := range 16 * 256 {
		d := newDisk(t, 30)
		fill(t, d, 0xEE)
		c := great(1)
		for i := range c.List {
			c.List[i].Value = longValue[:min(256, max(0, long-i*256))]
		}
		held, _ := record.Chunk(c)
		frame, _ := codec.Frame(held)
		if at := len(frame) % 512; at > 2 && at < 510 && long%97 > 0 {
			continue
		}
		needs := (len(frame) + 511) / 512
		needed[needs] = true
		want(t, "Write", ckpt.Write(d, a, c), api.OK)
		wanted := bytes.Repeat([]byte{0xEE}, 30*512)
		clear(wanted[14*512 : (14+needs)*512])
		copy(wanted[14*512:], frame)
		if !bytes.Equal(bytesOf(t, d, 0, 30), wanted) {
			t.Fatalf("other bytes of a frame of %d", len(frame))
		}
		wantChunk(t, d, a, 1, c)
	}
	d := newDisk(t, 30)
	want(t, "Write", ckpt.Write(d, a, great(1)), api.OK)
	if got := len(slices.Collect(d.Dirty())); got != 11 {
		t.Errorf("the greatest chunk has %d sectors", got)
	}
	wantChunk(t, d, a, 1, great(1))
	for needs := 4; needs <= 11; needs++ {
		if !needed[needs] {
			t.Errorf("no frame of %d sectors was tried", needs)
		}
	}
}

// P19.2: the sectors are written from the first one on, and the first error ends it.
func TestWriteThatTheFuseEnds(t *testing.T) {
	a := api.Area{From: 1, Chunks: 2}
	for n := 1; n <= 11; n++ {
		d := newDisk(t, 30)
		fill(t, d, 0xEE)
		want(t, "SetFuse", d.SetFuse(n, slices.Repeat([]bool{true}, 30)...), api.OK)
		calls := d.Calls()
		want(t, "Write", ckpt.Write(d, a, great(1)), api.ErrDown)
		if d.Calls() != calls+int64(n) {
			t.Fatalf("%d calls, want %d", d.Calls()-calls, n)
		}
		want(t, "Write without power", ckpt.Write(d, a, great(1)), api.ErrDown)
		want(t, "Restart", d.Restart(), api.OK)
		held, _ := record.Chunk(great(1))
		frame, _ := codec.Frame(held)
		wanted := bytes.Repeat([]byte{0xEE}, 30*512)
		clear(wanted[13*512 : (13+n)*512])
		copy(wanted[13*512:(13+n)*512], frame)
		if !bytes.Equal(bytesOf(t, d, 0, 30), wanted) {
			t.Fatalf("other bytes where the write %d met the fuse", n)
		}
		if n == 11 {
			wantChunk(t, d, a, 1, great(1))
		} else {
			refuseRead(t, "a part of it", d, a, 1, api.ErrCkpt)
		}
	}
}

// P19.2: a chunk that is written anew, with fewer bytes, leaves sectors of the elder one behind it.
func TestWriteAnew(t *testing.T) {
	a := api.Area{From: 0, Chunks: 1}
	d := newDisk(t, 12)
	want(t, "the elder one", ckpt.Write(d, a, great(0)), api.OK)
	elder := bytesOf(t, d, 0, 12)
	small := api.Chunk{List: rising(2)}
	want(t, "the newer one", ckpt.Write(d, a, small), api.OK)
	wantChunk(t, d, a, 0, small)
	if !bytes.Equal(bytesOf(t, d, 1, 11), elder[512:]) {
		t.Error("the other sectors are no longer as they were")
	}
	for at := range bytesOf(t, d, 0, 1)[100:] {
		if b := bytesOf(t, d, 0, 1)[100+at]; b != 0 {
			t.Fatalf("the byte %d is %d", 100+at, b)
		}
	}
}

// P19.2: errors of Write, and which comes first.
func TestWriteErrors(t *testing.T) {
	a := api.Area{From: 3, Chunks: 2}
	wrong := api.Area{From: 4, Chunks: 3}
	down := newDisk(t, 40)
	want(t, "Crash", down.Crash(), api.OK)
	bad := []api.Stamped{pair("", "", 1)}
	for _, c := range []struct {
		why  string
		a    api.Area
		c    api.Chunk
		want api.Errno
	}{
		{"no such area", wrong, api.Chunk{}, api.ErrArea},
		{"area ahead of the chunk", wrong, api.Chunk{List: bad}, api.ErrArea},
		{"area ahead of the number", wrong, api.Chunk{Number: -1}, api.ErrArea},
		{"a number below 0", a, api.Chunk{Number: -1}, api.ErrField},
		{"a number above all", a, api.Chunk{Number: 4096}, api.ErrField},
		{"a key", a, api.Chunk{List: bad}, api.ErrKey},
		{"a value", a, api.Chunk{List: []api.Stamped{pair("a", longValue+"v", 1)}}, api.ErrValue},
		{"a timestamp", a, api.Chunk{List: []api.Stamped{pair("a", "", 0)}}, api.ErrField},
		{"too many pairs", a, api.Chunk{List: rising(17)}, api.ErrField},
		{"keys that do not rise", a, api.Chunk{List: []api.Stamped{pair("a", "", 1), pair("a", "", 1)}}, api.ErrField},
		{"a number beyond the area", a, api.Chunk{Number: 2}, api.ErrArea},
		{"the greatest number", a, api.Chunk{Number: 4095}, api.ErrArea},
		{"the chunk ahead of a number beyond the area", a, api.Chunk{Number: 2, List: bad}, api.ErrKey},
	} {
		d := newDisk(t, 39)
		want(t, c.why, ckpt.Write(d, c.a, c.c), c.want)
		if d.Calls() != 0 || !disk.Same(d, newDisk(t, 39)) {
			t.Errorf("%s: something was written", c.why)
		}
		if c.a == a {
			want(t, c.why+", ahead of the power", ckpt.Write(down, c.a, c.c), c.want)
		}
		want(t, c.why+", behind what no call made", ckpt.Write(nil, c.a, c.c), api.ErrMade)
		want(t, c.why+", behind what no call made", ckpt.Write(new(disk.Disk), c.a, c.c), api.ErrMade)
	}
	want(t, "an area ahead of the power", ckpt.Write(down, api.Area{From: 40, Chunks: 1}, api.Chunk{}), api.ErrArea)
	want(t, "the power", ckpt.Write(down, a, api.Chunk{}), api.ErrDown)
	want(t, "the power", ckpt.Write(down, a, great(1)), api.ErrDown)
}

// P19.2: errors of Read, and which comes first.
func TestReadErrors(t *testing.T) {
	a := api.Area{From: 3, Chunks: 2}
	d, down := newDisk(t, 27), newDisk(t, 27)
	want(t, "Crash", down.Crash(), api.OK)
	for _, n := range []int{0, 1} {
		refuseRead(t, "a fresh area", d, a, n, api.ErrCkpt)
		refuseRead(t, "the power", down, a, n, api.ErrDown)
	}
	for _, n := range []int{-1, 2, 3, 4095, 4096, math.MinInt, math.MaxInt} {
		refuseRead(t, "no such number", d, a, n, api.ErrArg)
		refuseRead(t, "a number ahead of the power", down, a, n, api.ErrArg)
		refuseRead(t, "the area ahead of a number", down, api.Area{From: 4, Chunks: 2}, n, api.ErrArea)
		refuseRead(t, "what no call made", nil, api.Area{From: -1}, n, api.ErrMade)
		refuseRead(t, "what no call made", new(disk.Disk), a, n, api.ErrMade)
	}
}

// framed are bytes as a frame.
func framed(b []byte) []byte {
	f, _ := codec.Frame(b)
	return f
}

// P19.2: what stands there is no chunk, or not the one.
func TestReadOfOtherBytes(t *testing.T) {
	a := api.Area{From: 1, Chunks: 3}
	c := api.Chunk{Number: 1, List: rising(3)}
	held, _ := record.Chunk(c)
	other, _ := record.Chunk(api.Chunk{Number: 2, List: rising(3)})
	for _, x := range []struct {
		why  string
		b    []byte
		want api.Errno
	}{
		{"the chunk", framed(held), api.OK},
		{"with bytes behind it", append(framed(held), 1, 2, 3), api.OK},
		{"with all bytes behind it", append(framed(held), bytes.Repeat([]byte{255}, 6144-len(framed(held)))...), api.OK},
		{"with another frame behind it", append(framed(held), framed(other)...), api.OK},
		{"behind a byte", append([]byte{108}, framed(held)...), api.ErrCkpt},
		{"without a frame", held, api.ErrCkpt},
		{"in two frames", framed(framed(held)), api.ErrCkpt},
		{"another number", framed(other), api.ErrCkpt},
		{"a byte more in the frame", framed(append(slices.Clone(held), 0)), api.ErrCkpt},
		{"a byte less in the frame", framed(held[:len(held)-1]), api.ErrCkpt},
		{"nothing in the frame", framed(nil), api.ErrCkpt},
		{"a frame of all that is left", framed(bytes.Repeat([]byte{108}, 6144-7)), api.ErrCkpt},
		{"a frame that would end behind the place", framed(bytes.Repeat([]byte{108}, 6144-6)), api.ErrCkpt},
		{"noughts", make([]byte, 6144), api.ErrCkpt},
	} {
		d := newDisk(t, 60)
		fill(t, d, 0xEE)
		lay(t, d, 13, x.b)
		if x.want == api.OK {
			wantChunk(t, d, a, 1, c)
		} else {
			refuseRead(t, x.why, d, a, 1, x.want)
		}
	}
}

// P19.2: frames that are whole, at the place of the chunk 0, in which no chunk is.
func TestReadOfOtherFrames(t *testing.T) {
	a := api.Area{From: 1, Chunks: 1}
	for _, b := range []string{
		"",
		paperInt(0),
		paperInt(0) + paperInt(1),
		paperInt(0) + paperInt(2) + paperInt(0), // no flag
		paperInt(0) + paperInt(1) + paperInt(0) + paperInt(0),                                                                         // one int too many
		paperInt(0) + paperInt(1) + paperInt(1),                                                                                       // a pair too few
		paperInt(0) + paperInt(1) + paperInt(-1),                                                                                      // no number of pairs
		paperInt(0) + paperInt(1) + paperInt(17),                                                                                      // more than a chunk has
		paperInt(0) + paperInt(1) + paperInt(1) + paperText("") + paperText("v") + paperInt(1),                                        // no key
		paperInt(0) + paperInt(1) + paperInt(1) + paperText("a") + paperText(longValue+"v") + paperInt(1),                             // no value
		paperInt(0) + paperInt(1) + paperInt(1) + paperText("a") + paperText("v") + paperInt(0),                                       // no timestamp
		paperInt(0) + paperInt(1) + paperInt(2) + strings.Repeat(paperText("a")+paperText("v")+paperInt(1), 2),                        // a key twice
		"\xd1\x00" + paperInt(1) + paperInt(0),                                                                                        // not in the one form
		paperInt(-1) + paperInt(1) + paperInt(0), paperInt(1) + paperInt(1) + paperInt(0), paperInt(4096) + paperInt(1) + paperInt(0), // another number
	} {
		d := newDisk(t, 13)
		lay(t, d, 1, framed([]byte(b)))
		refuseRead(t, strconv.Quote(b), d, a, 0, api.ErrCkpt)
		refuseLoad(t, strconv.Quote(b), d, a, 1, api.ErrCkpt)
	}
	d := newDisk(t, 13)
	lay(t, d, 1, framed([]byte(paperInt(0)+paperInt(1)+paperInt(1)+paperText("a")+paperText("v")+paperInt(1))))
	wantLoad(t, "a chunk written by hand", d, a, 1, pair("a", "v", 1))
}

// P19.2: with any bit of the frame turned, it is not read; with any one behind the frame, it is.
func TestReadOfEachBit(t *testing.T) {
	a := api.Area{From: 0, Chunks: 1}
	c := api.Chunk{Last: true, List: rising(7)}
	held, _ := record.Chunk(c)
	long := len(framed(held))
	d := newDisk(t, 12)
	want(t, "Write", ckpt.Write(d, a, c), api.OK)
	whole := bytesOf(t, d, 0, 1)
	for at := range 512 {
		for bit := range 8 {
			b := slices.Clone(whole)
			b[at] ^= 1 << bit
			lay(t, d, 0, b)
			if at < long {
				refuseRead(t, "a bit turned", d, a, 0, api.ErrCkpt)
			} else {
				wantChunk(t, d, a, 0, c)
			}
		}
	}
}

func writeAll(t *testing.T, d *disk.Disk, a api.Area, l ...api.Chunk) {
	t.Helper()
	for _, c := range l {
		want(t, "Write", ckpt.Write(d, a, c), api.OK)
	}
}

func keyed(number int, last bool, l ...string) api.Chunk {
	c := api.Chunk{Number: number, Last: last}
	for _, key := range l {
		c.List = append(c.List, pair(key, "v", 1))
	}
	return c
}

// P19.2: chunks that are a checkpoint, and such as are none.
func TestLoad(t *testing.T) {
	a := api.Area{From: 5, Chunks: 4}
	for _, c := range []struct {
		why  string
		l    []api.Chunk
		want api.Errno
	}{
		{"one", []api.Chunk{keyed(0, true, "a", "b")}, api.OK},
		{"one without pairs", []api.Chunk{keyed(0, true)}, api.OK},
		{"two", []api.Chunk{keyed(0, false, "a", "b"), keyed(1, true, "c")}, api.OK},
		{"a beginning ahead of the whole", []api.Chunk{keyed(0, false, "a"), keyed(1, true, "a\x00")}, api.OK},
		{"four, not full", []api.Chunk{keyed(0, false, "a"), keyed(1, false, "b"), keyed(2, false, "c"), keyed(3, true, "d")}, api.OK},
		{"without pairs at the end", []api.Chunk{keyed(0, false, "a"), keyed(1, true)}, api.OK},
		{"without pairs at the beginning", []api.Chunk{keyed(0, false), keyed(1, true, "a")}, api.OK},
		{"without pairs between", []api.Chunk{keyed(0, false, "a"), keyed(1, false), keyed(2, true, "b")}, api.OK},
		{"without any", []api.Chunk{keyed(0, false), keyed(1, false), keyed(2, true)}, api.OK},
		{"the last one is not Last", []api.Chunk{keyed(0, false, "a")}, api.ErrCkpt},
		{"none of two is Last", []api.Chunk{keyed(0, false, "a"), keyed(1, false, "b")}, api.ErrCkpt},
		{"the first one is Last", []api.Chunk{keyed(0, true, "a"), keyed(1, false, "b")}, api.ErrCkpt},
		{"both are Last", []api.Chunk{keyed(0, true, "a"), keyed(1, true, "b")}, api.ErrCkpt},
		{"one between is Last", []api.Chunk{keyed(0, false, "a"), keyed(1, true, "b"), keyed(2, true, "c")}, api.ErrCkpt},
		{"the same key", []api.Chunk{keyed(0, false, "a"), keyed(1, true, "a")}, api.ErrCkpt},
		{"a lower key", []api.Chunk{keyed(0, false, "a", "c"), keyed(1, true, "b")}, api.ErrCkpt},
		{"a lower key behind", []api.Chunk{keyed(0, false, "a", "c"), keyed(1, false, "d"), keyed(2, true, "b")}, api.ErrCkpt},
		{"the same key behind one without pairs", []api.Chunk{keyed(0, false, "b"), keyed(1, false), keyed(2, true, "b")}, api.ErrCkpt},
		{"a lower key behind two without pairs", []api.Chunk{keyed(0, false, "b"), keyed(1, false), keyed(2, false), keyed(3, true, "a")}, api.ErrCkpt},
		{"the first one is not there", []api.Chunk{keyed(1, true, "a")}, api.ErrCkpt},
		{"the second one is not there", []api.Chunk{keyed(0, false, "a"), keyed(2, true, "c")}, api.ErrCkpt},
	} {
		d := newDisk(t, 60)
		writeAll(t, d, a, c.l...)
		many := c.l[len(c.l)-1].Number + 1
		if c.want != api.OK {
			refuseLoad(t, c.why, d, a, many, c.want)
			continue
		}
		var all []api.Stamped
		for _, x := range c.l {
			all = append(all, x.List...)
		}
		wantLoad(t, c.why, d, a, many, all...)
		for other := -1; other <= 6; other++ {
			if other != many {
				refuseLoad(t, c.why+", but another number of chunks", d, a, other, api.ErrCkpt)
			}
		}
	}
}

// P19.2: errors of Load, and which comes first.
func TestLoadErrors(t *testing.T) {
	a := api.Area{From: 3, Chunks: 2}
	d, down := newDisk(t, 27), newDisk(t, 27)
	writeAll(t, d, a, keyed(0, false, "a"), keyed(1, true, "b"))
	want(t, "Crash", down.Crash(), api.OK)
	for _, n := range []int{0, -1, 3, 4096, 4097, math.MinInt, math.MaxInt} {
		refuseLoad(t, "how many", d, a, n, api.ErrCkpt)
		refuseLoad(t, "how many, ahead of the power", down, a, n, api.ErrCkpt)
		refuseLoad(t, "the area ahead of how many", d, api.Area{From: 3, Chunks: 3}, n, api.ErrArea)
		refuseLoad(t, "what no call made", nil, api.Area{From: -1}, n, api.ErrMade)
		refuseLoad(t, "what no call made", new(disk.Disk), a, n, api.ErrMade)
	}
	for _, n := range []int{1, 2} {
		refuseLoad(t, "the power", down, a, n, api.ErrDown)
		refuseLoad(t, "the area ahead of the power", down, api.Area{From: 4, Chunks: 2}, n, api.ErrArea)
	}
	wantLoad(t, "both", d, a, 2, pair("a", "v", 1), pair("b", "v", 1))
}

// The same sectors, looked at as another area, have other chunks.
func TestAreasThatOverlap(t *testing.T) {
	d := newDisk(t, 60)
	a := api.Area{From: 0, Chunks: 3}
	writeAll(t, d, a, keyed(0, false, "a"), keyed(1, false, "b"), keyed(2, true, "c"))
	wantChunk(t, d, a, 1, keyed(1, false, "b"))
	refuseRead(t, "a chunk on", d, api.Area{From: 12, Chunks: 3}, 0, api.ErrCkpt)
	wantChunk(t, d, api.Area{From: 0, Chunks: 2}, 1, keyed(1, false, "b"))
	refuseLoad(t, "a smaller area", d, api.Area{From: 0, Chunks: 2}, 2, api.ErrCkpt)
	wantLoad(t, "a greater area", d, api.Area{From: 0, Chunks: 5}, 3, pair("a", "v", 1), pair("b", "v", 1), pair("c", "v", 1))
	writeAll(t, d, api.Area{From: 12, Chunks: 1}, keyed(0, true, "z"))
	wantChunk(t, d, api.Area{From: 12, Chunks: 3}, 0, keyed(0, true, "z"))
	refuseLoad(t, "another chunk's number", d, a, 3, api.ErrCkpt)
}
