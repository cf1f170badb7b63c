package wal_test

import (
	"bytes"
	"encoding/binary"
	"hash/adler32"
	"math"
	"math/rand/v2"
	"slices"
	"testing"

	"cresset/api"
	"cresset/wal"
)

const (
	maxTS    = 1 << 40
	data     = 482 // bytes that a sector holds
	maxBegan = maxTS * data
)

// paperSector is a sector with any fields at all, and a sum that is right: 4 bytes, three times 8, 2, the rest.
func paperSector(seq, run, began uint64, long uint16, rest []byte) []byte {
	b := make([]byte, 512)
	binary.LittleEndian.PutUint64(b[4:], seq)
	binary.LittleEndian.PutUint64(b[12:], run)
	binary.LittleEndian.PutUint64(b[20:], began)
	binary.LittleEndian.PutUint16(b[28:], long)
	copy(b[30:], rest)
	binary.LittleEndian.PutUint32(b, adler32.Checksum(b[4:]))
	return b
}

// paperHead is the document's words on Head, written down a second time.
func paperHead(seq, run, began int64, l []byte) ([]byte, api.Errno) {
	if min(seq, run, began) < 0 || max(seq, run) > maxTS || began > maxBegan || len(l) > data {
		return nil, api.ErrArg
	}
	return paperSector(uint64(seq), uint64(run), uint64(began), uint16(len(l)), l), api.OK
}

// told is what Unhead answers of a sector.
type told struct {
	seq, run, began int64
	data            string
	e               api.Errno
}

func unhead(b []byte) told {
	seq, run, began, l, e := wal.Unhead(b)
	return told{seq, run, began, string(l), e}
}

func someData() [][]byte {
	l := [][]byte{nil, {}, {0}, {255}, {1, 2, 3}}
	for _, n := range []int{100, 255, 256, 481, 482} {
		b := make([]byte, n)
		for i := range b {
			b[i] = byte(i*i + n)
		}
		l = append(l, b, make([]byte, n))
	}
	return l
}

// P17.1: the bytes, one by one.
func TestHead(t *testing.T) {
	b, e := wal.Head(0x0102030405, 0x0a0b0c0d0e, 0x01020304050607, []byte("xyz"))
	if e != api.OK || len(b) != 512 {
		t.Fatalf("Head = %d bytes, %d", len(b), e)
	}
	wanted := []byte{5, 4, 3, 2, 1, 0, 0, 0, 0xe, 0xd, 0xc, 0xb, 0xa, 0, 0, 0, 7, 6, 5, 4, 3, 2, 1, 0, 3, 0, 'x', 'y', 'z'}
	sum := adler32.Checksum(append(bytes.Clone(wanted), make([]byte, 508-len(wanted))...))
	if !bytes.Equal(b[4:4+len(wanted)], wanted) || bytes.ContainsFunc(b[33:], func(r rune) bool { return r != 0 }) {
		t.Errorf("behind the sum: %v", b[4:])
	}
	if !bytes.Equal(b[:4], []byte{byte(sum), byte(sum >> 8), byte(sum >> 16), byte(sum >> 24)}) {
		t.Errorf("the sum is %v, want %08X, the lowest byte first", b[:4], sum)
	}
	b, e = wal.Head(0, 0, 0, bytes.Repeat([]byte{9}, 482))
	if e != api.OK || len(b) != 512 || b[28] != 482&255 || b[29] != 1 || b[30] != 9 || b[511] != 9 {
		t.Errorf("a full sector: %v, %d", b, e)
	}
}

var (
	anyStamps = []int64{math.MinInt64, -maxTS, -1, 0, 1, 255, 256, maxTS - 1, maxTS, maxTS + 1, maxBegan - 1, maxBegan, maxBegan + 1, math.MaxInt64}
	longData  = [][]byte{make([]byte, 483), make([]byte, 512), make([]byte, 65536), make([]byte, 65536+100)}
)

// P17.1: all limits of the fields, each against each.
func TestHeadOfAnyFields(t *testing.T) {
	for _, seq := range anyStamps {
		for _, run := range anyStamps {
			for _, began := range anyStamps {
				for _, l := range [][]byte{nil, {1, 2}, make([]byte, 482), longData[0]} {
					b, e := wal.Head(seq, run, began, l)
					wanted, we := paperHead(seq, run, began, l)
					if e != we || !bytes.Equal(b, wanted) || e != api.OK && b != nil {
						t.Fatalf("Head(%d, %d, %d, %d bytes) = %v, %d, want %d", seq, run, began, len(l), b, e, we)
					}
				}
			}
		}
	}
	for _, l := range longData {
		if b, e := wal.Head(1, 1, 1, l); b != nil || e != api.ErrArg {
			t.Errorf("Head of %d bytes = %v, %d", len(l), b, e)
		}
	}
}

// P17.1: what Head writes is read as it was; what Unhead takes is, written again, the same bytes.
func TestThereAndBack(t *testing.T) {
	r := rand.New(rand.NewPCG(1, 17))
	good := func(most int64) int64 { return []int64{0, 1, most, most - 1, r.Int64N(most + 1)}[r.IntN(5)] }
	for _, l := range someData() {
		for range 200 {
			seq, run, began := good(maxTS), good(maxTS), good(maxBegan)
			b, e := wal.Head(seq, run, began, l)
			if e != api.OK {
				t.Fatalf("Head(%d, %d, %d) answered %d", seq, run, began, e)
			}
			if got := unhead(b); got != (told{seq, run, began, string(l), api.OK}) {
				t.Fatalf("Head(%d, %d, %d, %v) is read as %v", seq, run, began, l, got)
			}
			b = paperSector(uint64(seq), uint64(run), uint64(began), uint16(len(l)), l)
			x := unhead(b)
			if again, e := wal.Head(x.seq, x.run, x.began, []byte(x.data)); e != api.OK || x.e != api.OK || !bytes.Equal(again, b) {
				t.Fatalf("%v, written again, is %v, %d", b, again, e)
			}
		}
	}
}

// P17.1: Unhead's errors, in their order: the length, the sum, the form.
func TestUnheadErrors(t *testing.T) {
	good := paperSector(1, 2, 3, 2, []byte("ab"))
	for _, n := range []int{0, 1, 4, 30, 32, 511, 513, 1024} {
		if got := unhead(append(bytes.Clone(good), make([]byte, 512)...)[:n]); got != (told{e: api.ErrArg}) {
			t.Errorf("of %d bytes: %v", n, got)
		}
	}
	if got := unhead(nil); got != (told{e: api.ErrArg}) {
		t.Errorf("of nothing: %v", got)
	}
	for _, b := range [][]byte{make([]byte, 512), bytes.Repeat([]byte{255}, 512), bytes.Repeat([]byte{1}, 512)} {
		if got := unhead(b); got != (told{e: api.ErrCheck}) {
			t.Errorf("of 512 times %d: %v", b[0], got)
		}
	}
	for at := range good {
		for bit := range 8 {
			b := bytes.Clone(good)
			b[at] ^= 1 << bit
			if got := unhead(b); got != (told{e: api.ErrCheck}) {
				t.Fatalf("with the bit %d of the byte %d turned: %v", bit, at, got)
			}
		}
	}
	swapped := bytes.Clone(good)
	slices.Reverse(swapped[:4])
	if got := unhead(swapped); got != (told{e: api.ErrCheck}) {
		t.Errorf("with the highest byte of the sum first: %v", got)
	}
}

// P17.1: fields that Head refuses, and what is behind data, with a sum that is right: each limit from both sides.
func TestUnheadOfForms(t *testing.T) {
	numbers := []uint64{0, 1, maxTS - 1, maxTS, maxTS + 1, maxBegan, maxBegan + 1, 1 << 62, 1<<63 - 1, 1 << 63, 1<<63 + 1, math.MaxUint64}
	for _, seq := range numbers {
		for _, run := range numbers {
			for _, began := range numbers {
				for _, long := range []uint16{0, 3, 482, 483, 512, 32768, 65535} {
					wanted := told{e: api.ErrForm}
					if seq <= maxTS && run <= maxTS && began <= maxBegan && long <= 482 {
						wanted = told{int64(seq), int64(run), int64(began), string(make([]byte, long)), api.OK}
					}
					if got := unhead(paperSector(seq, run, began, long, nil)); got != wanted {
						t.Fatalf("of %d, %d, %d, %d: %v", seq, run, began, long, got)
					}
				}
			}
		}
	}
	for _, long := range []int{0, 1, 100, 480, 481} {
		for at := range 482 {
			rest := make([]byte, 482)
			rest[at] = 7
			wanted := told{e: api.ErrForm}
			if at < long {
				wanted = told{4, 5, 6, string(rest[:long]), api.OK}
			}
			if got := unhead(paperSector(4, 5, 6, uint16(long), rest)); got != wanted {
				t.Fatalf("of %d bytes, with one at %d: %v", long, at, got)
			}
		}
	}
}

// R3: what is handed in is left as it is, and what is answered is the caller's alone.
func TestHeadIsTheCallers(t *testing.T) {
	l := append(make([]byte, 0, 600), "abc"...)
	b, _ := wal.Head(1, 2, 3, l)
	l[0] = 'z'
	if got := unhead(b); got.data != "abc" || !bytes.Equal(l[:600], append([]byte("zbc"), make([]byte, 597)...)) {
		t.Errorf("%v, %v", got, l)
	}
	was := bytes.Clone(b)
	_, _, _, one, _ := wal.Unhead(b)
	_, _, _, other, _ := wal.Unhead(b)
	one[0] = 'q'
	one = append(one, "more"...)
	if !bytes.Equal(b, was) || string(other) != "abc" || len(one) != 7 {
		t.Errorf("the answer reaches %v or %v", b, other)
	}
	b[30] = 'w'
	if string(other) != "abc" {
		t.Errorf("what is handed in reaches the answer %q", other)
	}
}
