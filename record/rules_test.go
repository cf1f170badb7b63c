package record_test

import (
	"bytes"
	"math"
	"math/rand/v2"
	"slices"
	"strings"
	"testing"

	"cresset/api"
	"cresset/record"
)

// The calls that the chapter lists keep their signatures.
var (
	_ func(string) api.Errno                      = record.Key
	_ func(string) api.Errno                      = record.Value
	_ func(api.Write) api.Errno                   = record.CheckWrite
	_ func(api.Commit) api.Errno                  = record.CheckCommit
	_ func(api.Chunk) api.Errno                   = record.CheckChunk
	_ func(api.Master) api.Errno                  = record.CheckMaster
	_ func([]byte, api.Write) ([]byte, api.Errno) = record.PutWrite
	_ func([]byte) (api.Write, int, api.Errno)    = record.TakeWrite
	_ func(api.Commit) ([]byte, api.Errno)        = record.Commit
	_ func([]byte) (api.Commit, api.Errno)        = record.TakeCommit
	_ func(api.Chunk) ([]byte, api.Errno)         = record.Chunk
	_ func([]byte) (api.Chunk, api.Errno)         = record.TakeChunk
	_ func(api.Master) ([]byte, api.Errno)        = record.Master
	_ func([]byte) (api.Master, api.Errno)        = record.TakeMaster
	_ func(api.Commit, api.Commit) bool           = record.SameCommit
	_ func(api.Chunk, api.Chunk) bool             = record.SameChunk
)

func TestErrorsHaveTheirNumbers(t *testing.T) {
	got := []api.Errno{api.ErrKey, api.ErrValue, api.ErrField, api.MaxWrites, api.MaxChunk, api.MaxChunks, api.MaxKey, api.MaxValue}
	if wanted := []api.Errno{30, 31, 32, 64, 16, 4096, 64, 256}; !slices.Equal(got, wanted) {
		t.Errorf("errors and limits are %v, want %v", got, wanted)
	}
}

// R1 and R2: no call panics at any bytes, and beside an error stands nothing.
func TestAnyBytes(t *testing.T) {
	r := rand.New(rand.NewPCG(1, 3))
	for range 50000 {
		b := make([]byte, r.IntN(20))
		for i := range b {
			b[i] = byte(r.Uint32())
			if r.IntN(3) > 0 {
				b[i] = byte(106 + r.IntN(5))
			}
		}
		againCommit(t, b)
		againChunk(t, b)
		againMaster(t, b)
		againWrite(t, b)
	}
}

// R1 and R2: values at the ends of their types.
func TestAnyValues(t *testing.T) {
	great := strings.Repeat("x", 1<<20)
	ends := []int64{math.MinInt64, -1, 0, 1, math.MaxInt64}
	for _, n := range ends {
		for _, s := range []string{"", "a", great} {
			w := api.Write{Key: s, Value: great, Del: true}
			if b, e := record.PutWrite(nil, w); b != nil || e == api.OK {
				t.Errorf("PutWrite has %d bytes, error %d", len(b), e)
			}
			if b, e := record.Commit(api.Commit{TS: n, Writes: []api.Write{w, w}}); b != nil || e == api.OK {
				t.Errorf("Commit has %d bytes, error %d", len(b), e)
			}
			if b, e := record.Chunk(api.Chunk{Number: int(n), List: []api.Stamped{{Key: s, Value: great, TS: n}}}); b != nil || e == api.OK {
				t.Errorf("Chunk has %d bytes, error %d", len(b), e)
			}
		}
		if b, e := record.Master(api.Master{Seq: n, Area: int(n), Chunks: int(n), TS: n, Mark: api.Mark{Sector: n, Offset: int(n), Number: n, Run: n}}); (b == nil) != (e != api.OK) || (e == api.OK) != (n == 1) {
			t.Errorf("Master of %d has %d bytes, error %d", n, len(b), e)
		}
	}
}

// roomy is b with room behind it that holds a pattern, and a call that says whether b or the room was written to.
func roomy(b []byte) ([]byte, func() bool) {
	whole := append(bytes.Clone(b), bytes.Repeat([]byte{0xA5}, 400)...)
	before := bytes.Clone(whole)
	return whole[:len(b)], func() bool { return !bytes.Equal(whole, before) }
}

// R3: a list of bytes that is handed in is not written to, nor what stands behind its end.
func TestHandedInBytesAreLeft(t *testing.T) {
	p := newPlenty(10, 0)
	c, k, m := p.commit(), p.chunk(), p.master()
	for _, head := range [][]byte{{}, {1, 2, 3}, rawWrite(c.Writes[0]), rawCommit(c, len(c.Writes)), rawChunk(k, len(k.List)), rawMaster(m)} {
		b, written := roomy(head)
		record.PutWrite(b, api.Write{Key: "a", Value: "1"})
		record.PutWrite(b, api.Write{Key: longKey, Value: longValue})
		record.PutWrite(b, api.Write{})
		record.TakeWrite(b)
		record.TakeCommit(b)
		record.TakeChunk(b)
		record.TakeMaster(b)
		if written() {
			t.Errorf("%v was written to", head)
		}
	}
}

// R3: lists of writes and pairs that are handed in are left as they are.
func TestHandedInListsAreLeft(t *testing.T) {
	p := newPlenty(11, 100)
	for range 500 {
		c, k := p.commit(), p.chunk()
		writes, list := slices.Clone(c.Writes), slices.Clone(k.List)
		record.CheckCommit(c)
		record.Commit(c)
		record.SameCommit(c, c)
		record.CheckChunk(k)
		record.Chunk(k)
		record.SameChunk(k, k)
		if !slices.Equal(c.Writes, writes) || !slices.Equal(k.List, list) {
			t.Fatal("a list was written to")
		}
	}
}

// R3: bytes that are answered are nobody's else, up to their capacity.
func TestAnsweredBytesAreTheCallers(t *testing.T) {
	c := api.Commit{TS: 3, Writes: keysOf("a", "b")}
	for name, put := range map[string]func(b []byte) []byte{
		"PutWrite": func(b []byte) []byte { x, _ := record.PutWrite(b, c.Writes[0]); return x },
		"Commit":   func([]byte) []byte { x, _ := record.Commit(c); return x },
		"Chunk":    func([]byte) []byte { x, _ := record.Chunk(api.Chunk{List: manyStamped(2)}); return x },
		"Master":   func([]byte) []byte { x, _ := record.Master(api.Master{Seq: 1, Chunks: 1}); return x },
	} {
		for _, head := range [][]byte{nil, {1, 2, 3}} {
			b, written := roomy(head)
			one, two := put(b), put(b)
			before := bytes.Clone(one)
			all := two[:cap(two)]
			for i := range all {
				all[i] ^= 255
			}
			if !bytes.Equal(one, before) || written() {
				t.Errorf("%s: what is answered is another's too", name)
			}
		}
	}
}

// R3: what was read stays as it was when the bytes change, and no two answers share a list.
func TestReadRecordsAreTheCallers(t *testing.T) {
	p := newPlenty(12, 0)
	for range 100 {
		c, k, w := p.commit(), p.chunk(), p.write("key")
		b, kb, wb := rawCommit(c, len(c.Writes)), rawChunk(k, len(k.List)), rawWrite(w)
		one, _ := record.TakeCommit(b)
		two, _ := record.TakeCommit(b)
		kone, _ := record.TakeChunk(kb)
		ktwo, _ := record.TakeChunk(kb)
		write, _, _ := record.TakeWrite(wb)
		clear(b)
		clear(kb)
		clear(wb)
		clear(two.Writes[:cap(two.Writes)])
		clear(ktwo.List[:cap(ktwo.List)])
		if !record.SameCommit(one, c) || !record.SameChunk(kone, k) || write != w {
			t.Fatal("what was read has changed")
		}
	}
}

// R4: empty and nil lists are the same.
func TestEmptyAndNil(t *testing.T) {
	one, e := record.PutWrite(nil, api.Write{Key: "a"})
	two, f := record.PutWrite([]byte{}, api.Write{Key: "a"})
	if !bytes.Equal(one, two) || e != f {
		t.Error("a write behind nothing differs")
	}
	one, e = record.Chunk(api.Chunk{Number: 7})
	two, f = record.Chunk(api.Chunk{Number: 7, List: []api.Stamped{}})
	if !bytes.Equal(one, two) || e != api.OK || f != api.OK {
		t.Error("a chunk of nothing differs")
	}
	if c, e := record.TakeChunk(one); len(c.List) != 0 || c.Number != 7 || e != api.OK {
		t.Errorf("a chunk of nothing is read as %v, %d", c, e)
	}
	_, e = record.Commit(api.Commit{TS: 1})
	_, f = record.Commit(api.Commit{TS: 1, Writes: []api.Write{}})
	if e != api.ErrField || f != api.ErrField {
		t.Errorf("commits of nothing: %d, %d", e, f)
	}
}

// R6: the same calls answer the same.
func TestSameAgain(t *testing.T) {
	p := newPlenty(13, 60)
	for range 1000 {
		c := p.commit()
		b, e := record.Commit(c)
		d, f := record.Commit(c)
		if !bytes.Equal(b, d) || e != f {
			t.Fatalf("%v is answered otherwise the second time", c)
		}
		x := p.spoil(rawCommit(c, len(c.Writes)))
		one, e := record.TakeCommit(x)
		two, f := record.TakeCommit(x)
		if !record.SameCommit(one, two) || e != f {
			t.Fatalf("%v is answered otherwise the second time", x)
		}
	}
}

// The bound: as many calls as this would not end in time if one that is refused went through, or copied, all that it was handed.
func TestGreatArguments(t *testing.T) {
	writes, list := make([]api.Write, 1<<20), make([]api.Stamped, 1<<20)
	b := append(raw(3, 65), make([]byte, 1<<24)...)
	for range 20000 {
		want(t, "CheckCommit", record.CheckCommit(api.Commit{TS: 1, Writes: writes}), api.ErrField)
		want(t, "CheckChunk", record.CheckChunk(api.Chunk{List: list}), api.ErrField)
		_, e := record.TakeCommit(b)
		want(t, "TakeCommit", e, api.ErrField)
		_, e = record.PutWrite(b, api.Write{Key: "a"})
		want(t, "PutWrite", e, api.ErrLong)
	}
}
