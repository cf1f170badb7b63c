package wal_test

import (
	"bytes"
	"encoding/binary"
	"fmt"
	"hash/adler32"
	"slices"
	"testing"

	"cresset/api"
	"cresset/disk"
	"cresset/wal"
)

// item is a record as Records tells it.
type item struct {
	number int64
	data   string
}

func records(l *wal.Log) []item {
	var out []item
	for n, b := range l.Records() {
		out = append(out, item{n, string(b)})
	}
	return out
}

// brief names records by their numbers, lengths and beginnings.
func brief(l []item) string {
	s := ""
	for _, x := range l {
		s += fmt.Sprintf("%d: %d bytes %.5q; ", x.number, len(x.data), x.data)
	}
	return s
}

func mark(sector int64, offset int, number, run int64) api.Mark {
	return api.Mark{Sector: sector, Offset: offset, Number: number, Run: run}
}

// frame is a record's frame, by its words: its length as an int of chapter 1, itself, its sum.
func frame(s string) []byte {
	var b []byte
	switch n := len(s); {
	case n <= 100:
		b = []byte{byte(108 + n)}
	case n < 256:
		b = []byte{209, byte(n)}
	case n < 65536:
		b = []byte{210, byte(n >> 8), byte(n)}
	default:
		b = []byte{211, byte(n >> 16), byte(n >> 8), byte(n)}
	}
	return binary.BigEndian.AppendUint32(append(b, s...), adler32.Checksum([]byte(s)))
}

// filling is a record whose frame has just so many bytes (there is none of 106 or 262).
func filling(many int) string {
	for ahead := 1; ahead <= 4; ahead++ {
		if n := many - ahead - 4; n >= 0 {
			if s := string(bytes.Repeat([]byte{byte(many)}, n)); len(frame(s)) == many {
				return s
			}
		}
	}
	panic("no frame has so many bytes")
}

// bench is a disk with a log on it.
type bench struct {
	t             *testing.T
	d             *disk.Disk
	l             *wal.Log
	from, sectors int
}

// fresh has a log of so many sectors, with one ahead and one behind it that are another's.
func fresh(t *testing.T, sectors int) *bench {
	t.Helper()
	d, e := disk.New(sectors + 2)
	if e != api.OK {
		t.Fatalf("disk.New answered %d", e)
	}
	b := &bench{t, d, nil, 1, sectors}
	b.open(api.Mark{})
	return b
}

func (b *bench) want(what string, got, wanted api.Errno) {
	b.t.Helper()
	if got != wanted {
		b.t.Fatalf("%s answered %d, want %d", what, got, wanted)
	}
}

func (b *bench) open(m api.Mark) {
	b.t.Helper()
	l, e := wal.Open(b.d, b.from, b.sectors, m)
	if l == nil || e != api.OK {
		b.t.Fatalf("Open at %v = %v, %d", m, l, e)
	}
	b.l = l
}

// append appends records and says the number of the last one.
func (b *bench) append(l ...string) int64 {
	b.t.Helper()
	last := int64(-1)
	for _, s := range l {
		n, e := b.l.Append([]byte(s)...)
		b.want("Append", e, api.OK)
		last = n
	}
	return last
}

func (b *bench) flush() {
	b.t.Helper()
	b.want("Flush", b.l.Flush(), api.OK)
}

func (b *bench) truncate(m api.Mark) {
	b.t.Helper()
	b.want("Truncate", b.l.Truncate(m), api.OK)
}

func (b *bench) place(n int64) api.Mark {
	b.t.Helper()
	m, ok := b.l.Place(n)
	if !ok {
		b.t.Fatalf("Place(%d) tells none", n)
	}
	return m
}

// power lets the power go, and come back.
func (b *bench) power(keep ...bool) {
	b.t.Helper()
	if !b.d.Down() {
		b.want("Crash", b.d.Crash(keep...), api.OK)
	}
	b.want("Restart", b.d.Restart(), api.OK)
}

// put writes a sector of the log to the disk, as somebody else might have, and makes it sure.
func (b *bench) put(number, run, began int64, held []byte) {
	b.t.Helper()
	s, e := paperHead(number, run, began, held)
	b.want("paperHead", e, api.OK)
	b.raw(int(number%int64(b.sectors)), s)
}

// raw writes any sector of the ring.
func (b *bench) raw(at int, s []byte) {
	b.t.Helper()
	b.want("Write", b.d.Write(b.from+at, s...), api.OK)
	b.want("Barrier", b.d.Barrier(), api.OK)
}

// sector is what the log's sector with a number says on the disk.
func (b *bench) sector(number int64) told {
	b.t.Helper()
	s, e := b.d.Read(b.from + int(number%int64(b.sectors)))
	b.want("Read", e, api.OK)
	return unhead(s)
}

func (b *bench) wantRecords(l ...item) {
	b.t.Helper()
	if got := records(b.l); !slices.Equal(got, l) {
		b.t.Fatalf("records are %s, want %s", brief(got), brief(l))
	}
}

// wantOpen opens anew and says what must be there then.
func (b *bench) wantOpen(m, end api.Mark, l ...string) {
	b.t.Helper()
	b.open(m)
	var wanted []item
	for i, s := range l {
		wanted = append(wanted, item{m.Number + int64(i), s})
	}
	b.wantRecords(wanted...)
	b.wantMark(end)
	if b.l.First() != m || b.l.Flushed() != end.Number {
		b.t.Fatalf("First is %v, Flushed %d, want %v, %d", b.l.First(), b.l.Flushed(), m, end.Number)
	}
}

func (b *bench) wantMark(m api.Mark) {
	b.t.Helper()
	if got := b.l.Mark(); got != m {
		b.t.Fatalf("Mark is %v, want %v", got, m)
	}
}

func (b *bench) wantSector(number, run, began int64, held string) {
	b.t.Helper()
	if got, wanted := b.sector(number), (told{number, run, began, held, api.OK}); got != wanted {
		b.t.Fatalf("the sector %d is %v, want %v", number, got, wanted)
	}
}
