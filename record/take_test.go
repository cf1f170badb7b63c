package record_test

import (
	"bytes"
	"slices"
	"testing"

	"cresset/api"
	"cresset/record"
)

var (
	okWrite  = raw("a", false, "1")
	noKey    = raw("", false, "1")
	badValue = raw("b", false, longValue+"v")
	goneBusy = raw("b", true, "1")
)

// refused is bytes that are no record, and why.
type refused struct {
	why  string
	b    []byte
	want api.Errno
}

// P3.3: a write with which bytes begin, and how many it has.
func TestTakeWrite(t *testing.T) {
	for _, c := range []struct {
		b    []byte
		w    api.Write
		size int
	}{
		{[]byte{109, 97, 108, 109, 49}, api.Write{Key: "a", Value: "1"}, 5},
		{[]byte{109, 97, 108, 109, 49, 109, 98}, api.Write{Key: "a", Value: "1"}, 5},
		{[]byte{109, 97, 108, 108, 217}, api.Write{Key: "a"}, 4},
		{[]byte{110, 0, 255, 109, 108}, api.Write{Key: "\x00\xff", Del: true}, 5},
		{append(raw(longKey, false, longValue), 1, 2, 3), api.Write{Key: longKey, Value: longValue}, 65 + 1 + 3 + 256},
	} {
		w, size, e := record.TakeWrite(c.b)
		if w != c.w || size != c.size || e != api.OK {
			t.Errorf("TakeWrite(%v) = %v, %d, %d", c.b, w, size, e)
		}
	}
}

// P3.3: of a write codec's error of the first field that can't be read, and only then CheckWrite's.
func TestTakeWriteErrors(t *testing.T) {
	for _, c := range []refused{
		{"nothing", nil, api.ErrEnds},
		{"a key's length in a form that is none", []byte{217}, api.ErrForm},
		{"a key's length that is not the shortest", []byte{209, 1, 97, 108, 108}, api.ErrForm},
		{"a key's length below 0", raw(-1, false, ""), api.ErrForm},
		{"a key cut", []byte{110, 97}, api.ErrEnds},
		{"no flag", raw("a"), api.ErrEnds},
		{"a flag 2", raw("a", 2, ""), api.ErrForm},
		{"a flag -1", raw("a", -1, ""), api.ErrForm},
		{"no value", raw("a", false), api.ErrEnds},
		{"a value's length below 0", raw("a", false, -5), api.ErrForm},
		{"a value cut", raw("a", false, 2, []byte{1}), api.ErrEnds},
		{"no key", noKey, api.ErrKey},
		{"a key of 65", raw(longKey+"k", false, ""), api.ErrKey},
		{"a value of 257", badValue, api.ErrValue},
		{"gone with a value", goneBusy, api.ErrField},
		{"no key, and no flag", raw(""), api.ErrEnds},
		{"no key, and a flag 2", raw("", 2, ""), api.ErrForm},
		{"a key of 65, and a value cut", raw(longKey+"k", false, 1), api.ErrEnds},
		{"a value of 257, cut", badValue[:len(badValue)-1], api.ErrEnds},
		{"no key, and gone with a value", raw("", true, "1"), api.ErrKey},
	} {
		if w, size, e := record.TakeWrite(c.b); w != (api.Write{}) || size != 0 || e != c.want {
			t.Errorf("%s: TakeWrite = %v, %d, %d, want error %d alone", c.why, w, size, e, c.want)
		}
	}
}

// P3.3: of a commit the first error on the way.
func TestTakeCommitErrors(t *testing.T) {
	for _, c := range []refused{
		{"nothing", nil, api.ErrEnds},
		{"TS in a form that is none", []byte{217}, api.ErrForm},
		{"TS not the shortest", []byte{209, 3, 109, 109, 97, 108, 109, 49}, api.ErrForm},
		{"TS cut", []byte{210, 1}, api.ErrEnds},
		{"TS alone", raw(3), api.ErrEnds},
		{"TS 0 alone", raw(0), api.ErrEnds},
		{"how many in a form that is none", []byte{111, 255}, api.ErrForm},
		{"-1 writes, nothing behind", raw(3, -1), api.ErrField},
		{"-1 writes, bytes behind", raw(3, -1, []byte{217}), api.ErrField},
		{"65 writes, nothing behind", raw(3, 65), api.ErrField},
		{"65 writes, wrong ones behind", raw(3, 65, []byte{217}), api.ErrField},
		{"65 writes, a wrong key behind", raw(3, 65, noKey), api.ErrField},
		{"very many writes", raw(3, 1<<62), api.ErrField},
		{"very few writes", raw(3, -1<<62), api.ErrField},
		{"64 writes, nothing behind", raw(3, 64), api.ErrEnds},
		{"1 write, nothing behind", raw(3, 1), api.ErrEnds},
		{"2 writes, one behind", raw(3, 2, okWrite), api.ErrEnds},
		{"no writes", raw(3, 0), api.ErrField},
		{"no writes, and a byte", raw(3, 0, []byte{0}), api.ErrMore},
		{"no key", raw(3, 1, noKey), api.ErrKey},
		{"no key, and a byte", raw(3, 1, noKey, []byte{0}), api.ErrKey},
		{"no key, and the next one cut", raw(3, 2, noKey, 2), api.ErrKey},
		{"no key, and the next one of no form", raw(3, 2, noKey, []byte{217}), api.ErrKey},
		{"no key, and its value cut", raw(3, 1, "", false, 1), api.ErrEnds},
		{"no key, and its flag 2", raw(3, 1, "", 2, ""), api.ErrForm},
		{"a value of 257", raw(3, 2, okWrite, badValue), api.ErrValue},
		{"gone with a value, and a byte", raw(3, 2, okWrite, goneBusy, []byte{0}), api.ErrField},
		{"a value of 257, and no key behind", raw(3, 2, badValue, noKey), api.ErrValue},
		{"TS 0, and no key", raw(0, 1, noKey), api.ErrKey},
		{"TS 0, and one cut", raw(0, 2, okWrite), api.ErrEnds},
		{"TS 0", raw(0, 1, okWrite), api.ErrField},
		{"TS above MaxTS", raw(1<<40+1, 1, okWrite), api.ErrField},
		{"TS 0, and a byte", raw(0, 1, okWrite, []byte{0}), api.ErrMore},
		{"a byte", raw(3, 1, okWrite, []byte{0}), api.ErrMore},
		{"a write more", raw(3, 1, okWrite, badValue), api.ErrMore},
		{"the same key twice", raw(3, 2, okWrite, okWrite), api.ErrField},
		{"the same key twice, and a byte", raw(3, 2, okWrite, okWrite, []byte{0}), api.ErrMore},
		{"the same key twice, and no key behind", raw(3, 3, okWrite, okWrite, noKey), api.ErrKey},
		{"the same key twice, and one cut", raw(3, 3, okWrite, okWrite), api.ErrEnds},
	} {
		if k, e := record.TakeCommit(c.b); k.TS != 0 || k.Writes != nil || e != c.want {
			t.Errorf("%s: TakeCommit = %v, %d, want error %d alone", c.why, k, e, c.want)
		}
	}
}

// P3.3: of a chunk the first error on the way; its pairs are checked with the whole.
func TestTakeChunkErrors(t *testing.T) {
	pair := raw("a", "1", 5)
	bare := raw("", "1", 5)
	over := raw("b", longValue+"v", 5)
	for _, c := range []refused{
		{"nothing", nil, api.ErrEnds},
		{"Number of no form", []byte{217}, api.ErrForm},
		{"Number alone", raw(1), api.ErrEnds},
		{"Last 2", raw(1, 2), api.ErrForm},
		{"Last 2, Number beyond", raw(4096, 2), api.ErrForm},
		{"no count", raw(1, true), api.ErrEnds},
		{"-1 pairs", raw(1, true, -1), api.ErrField},
		{"17 pairs", raw(1, true, 17), api.ErrField},
		{"17 pairs, one of no form behind", raw(1, true, 17, []byte{217}), api.ErrField},
		{"very many pairs", raw(1, true, 1<<62), api.ErrField},
		{"16 pairs, nothing behind", raw(1, true, 16), api.ErrEnds},
		{"2 pairs, one behind", raw(1, true, 2, pair), api.ErrEnds},
		{"a key of no form", raw(1, true, 1, []byte{217}), api.ErrForm},
		{"a key's length below 0", raw(1, true, 1, -1), api.ErrForm},
		{"a value's length below 0", raw(1, true, 1, "a", -1), api.ErrForm},
		{"a value cut", raw(1, true, 1, "a", 3, []byte{1}), api.ErrEnds},
		{"no TS", raw(1, true, 1, "a", "1"), api.ErrEnds},
		{"TS not the shortest", raw(1, true, 1, "a", "1", []byte{209, 5}), api.ErrForm},
		{"no key", raw(1, true, 1, bare), api.ErrKey},
		{"no key, and a byte", raw(1, true, 1, bare, []byte{0}), api.ErrMore},
		{"no key, and the next one cut", raw(1, true, 2, bare, 2), api.ErrEnds},
		{"no key, and the next one of no form", raw(1, true, 2, bare, []byte{217}), api.ErrForm},
		{"a value of 257", raw(1, true, 2, pair, over), api.ErrValue},
		{"a value of 257, and a byte", raw(1, true, 2, pair, over, []byte{0}), api.ErrMore},
		{"TS 0", raw(1, true, 1, "a", "1", 0), api.ErrField},
		{"TS above MaxTS", raw(1, true, 1, "a", "1", 1<<40+1), api.ErrField},
		{"TS 0, and no key behind", raw(1, true, 2, "a", "1", 0, bare), api.ErrField},
		{"Number -1", raw(-1, true, 1, pair), api.ErrField},
		{"Number 4096, and no key", raw(4096, true, 1, bare), api.ErrField},
		{"Number 4096, and a byte", raw(4096, true, 1, pair, []byte{0}), api.ErrMore},
		{"Number 4096, and a pair cut", raw(4096, true, 2, pair), api.ErrEnds},
		{"the same key twice", raw(1, true, 2, pair, pair), api.ErrField},
		{"a byte behind none", raw(1, true, 0, []byte{0}), api.ErrMore},
		{"a pair more", raw(1, true, 1, pair, over), api.ErrMore},
	} {
		if k, e := record.TakeChunk(c.b); k.Number != 0 || k.Last || k.List != nil || e != c.want {
			t.Errorf("%s: TakeChunk = %v, %d, want error %d alone", c.why, k, e, c.want)
		}
	}
}

// P3.3: of a master the first error on the way.
func TestTakeMasterErrors(t *testing.T) {
	list := []refused{
		{"nothing", nil, api.ErrEnds},
		{"an empty list", []byte{}, api.ErrEnds},
		{"a byte more", raw(4, 1, 2, 9, 3, 7, 8, 5, 0), api.ErrMore},
		{"wrong, and a byte more", raw(0, 2, 0, -1, -1, 512, -1, -1, 0), api.ErrMore},
		{"wrong, and one too few", raw(0, 2, 0, -1, -1, 512, -1), api.ErrEnds},
		{"wrong, and one of no form", raw(0, 2, 0, -1, -1, 512, -1, []byte{255}), api.ErrForm},
		{"noughts", make([]byte, 8), api.ErrEnds},
	}
	whole := []int64{4, 1, 2, 9, 3, 7, 8, 5}
	limits := [][2]int64{{1, 1 << 40}, {0, 1}, {1, 4096}, {0, 1 << 40}, {0, 1 << 40}, {0, 511}, {0, 1 << 40}, {0, 1 << 40}}
	for i, limit := range limits {
		for _, n := range []int64{limit[0] - 1, limit[1] + 1, -1 << 63, 1<<63 - 1} {
			l := slices.Clone(whole)
			l[i] = n
			list = append(list, refused{"a field beyond", numbers(l...), api.ErrField})
		}
		list = append(list, refused{"too few fields", numbers(whole[:i]...), api.ErrEnds})
		list = append(list, refused{"a field of no form", append(numbers(whole[:i]...), 217, 0), api.ErrForm})
		list = append(list, refused{"a field not the shortest", append(numbers(whole[:i]...), 209, 1), api.ErrForm})
		list = append(list, refused{"a field cut", append(numbers(whole[:i]...), 214, 1), api.ErrEnds})
	}
	for _, c := range list {
		if m, e := record.TakeMaster(c.b); m != (api.Master{}) || e != c.want {
			t.Errorf("%s: TakeMaster(%v) = %v, %d, want error %d alone", c.why, c.b, m, e, c.want)
		}
	}
	m, e := record.TakeMaster(numbers(whole...))
	if wanted := (api.Master{Seq: 4, Area: 1, Chunks: 2, TS: 9, Mark: api.Mark{Sector: 3, Offset: 7, Number: 8, Run: 5}}); m != wanted || e != api.OK {
		t.Errorf("TakeMaster = %v, %d", m, e)
	}
}

func numbers(l ...int64) []byte {
	var b []byte
	for _, n := range l {
		b = append(b, raw(n)...)
	}
	return b
}

// P3.5: what is written is read as it was, be it at the edges or not.
func TestThereAndBack(t *testing.T) {
	p := newPlenty(7, 0)
	for range 4000 {
		c, k, m := p.commit(), p.chunk(), p.master()
		b, _ := record.Commit(c)
		if back, e := record.TakeCommit(b); e != api.OK || !slices.Equal(back.Writes, c.Writes) || back.TS != c.TS {
			t.Fatalf("%v is read as %v, %d", c, back, e)
		}
		b, _ = record.Chunk(k)
		if back, e := record.TakeChunk(b); e != api.OK || !slices.Equal(back.List, k.List) || back.Number != k.Number || back.Last != k.Last {
			t.Fatalf("%v is read as %v, %d", k, back, e)
		}
		b, _ = record.Master(m)
		if back, e := record.TakeMaster(b); e != api.OK || back != m {
			t.Fatalf("%v is read as %v, %d", m, back, e)
		}
		for _, w := range c.Writes {
			own, _ := record.PutWrite(nil, w)
			if back, size, e := record.TakeWrite(append(own, b...)); e != api.OK || back != w || size != len(own) {
				t.Fatalf("%v is read as %v, %d, %d", w, back, size, e)
			}
		}
	}
}

// P3.5: writes that are put one behind the other are read one behind the other.
func TestWritesInARow(t *testing.T) {
	p := newPlenty(8, 0)
	for range 200 {
		l := p.commit().Writes
		var b []byte
		for _, w := range l {
			var e api.Errno
			b, e = record.PutWrite(b, w)
			want(t, "PutWrite", e, api.OK)
		}
		for _, w := range l {
			got, size, e := record.TakeWrite(b)
			if got != w || e != api.OK {
				t.Fatalf("%v is read as %v, %d", w, got, e)
			}
			b = b[size:]
		}
		if len(b) > 0 {
			t.Fatalf("%d bytes are left", len(b))
		}
	}
}

// againCommit and the others hold what is read against the document's words, and what is read, written again, against the bytes (P3.5).
func againCommit(t *testing.T, b []byte) api.Errno {
	t.Helper()
	got, e := record.TakeCommit(b)
	wanted, f := refTakeCommit(b)
	if e != f || !record.SameCommit(got, wanted) {
		t.Fatalf("TakeCommit(%v) = %v, %d, want %v, %d", b, got, e, wanted, f)
	}
	if again, f := record.Commit(got); e == api.OK && (f != api.OK || !bytes.Equal(again, b)) {
		t.Fatalf("%v, written again: %v, %d", b, again, f)
	}
	return e
}

func againChunk(t *testing.T, b []byte) api.Errno {
	t.Helper()
	got, e := record.TakeChunk(b)
	wanted, f := refTakeChunk(b)
	if e != f || !record.SameChunk(got, wanted) {
		t.Fatalf("TakeChunk(%v) = %v, %d, want %v, %d", b, got, e, wanted, f)
	}
	if again, f := record.Chunk(got); e == api.OK && (f != api.OK || !bytes.Equal(again, b)) {
		t.Fatalf("%v, written again: %v, %d", b, again, f)
	}
	return e
}

func againMaster(t *testing.T, b []byte) api.Errno {
	t.Helper()
	got, e := record.TakeMaster(b)
	wanted, f := refTakeMaster(b)
	if e != f || got != wanted {
		t.Fatalf("TakeMaster(%v) = %v, %d, want %v, %d", b, got, e, wanted, f)
	}
	if again, f := record.Master(got); e == api.OK && (f != api.OK || !bytes.Equal(again, b)) {
		t.Fatalf("%v, written again: %v, %d", b, again, f)
	}
	return e
}

func againWrite(t *testing.T, b []byte) api.Errno {
	t.Helper()
	got, size, e := record.TakeWrite(b)
	wanted, wantedSize, f := refTakeWrite(b)
	if e != f || got != wanted || size != wantedSize {
		t.Fatalf("TakeWrite(%v) = %v, %d, %d, want %v, %d, %d", b, got, size, e, wanted, wantedSize, f)
	}
	if again, f := record.PutWrite(nil, got); e == api.OK && (f != api.OK || !bytes.Equal(again, b[:size])) {
		t.Fatalf("%v, written again: %v, %d", b, again, f)
	}
	return e
}

// P3.3 and P3.5: bytes of records that may be and of ones that may not, as they are and spoilt.
func TestTakeOfManyBytes(t *testing.T) {
	takes := map[string]func(*testing.T, []byte) api.Errno{"commit": againCommit, "chunk": againChunk, "master": againMaster, "write": againWrite}
	seen := map[string]map[api.Errno]int{"commit": {}, "chunk": {}, "master": {}, "write": {}}
	for seed, wild := range []int{0, 10, 60, 200} {
		p := newPlenty(uint64(20+seed), wild)
		for range 3000 {
			c, k := p.commit(), p.chunk()
			made := map[string][]byte{
				"commit": rawCommit(c, int(p.number(int64(len(c.Writes)), int64(len(c.Writes))))),
				"chunk":  rawChunk(k, int(p.number(int64(len(k.List)), int64(len(k.List))))),
				"master": rawMaster(p.master()),
				"write":  rawWrite(p.write(p.text(1, 64))),
			}
			for _, kind := range []string{"commit", "chunk", "master", "write"} {
				b := made[kind]
				seen[kind][takes[kind](t, b)]++
				for range 4 {
					seen[kind][takes[kind](t, p.spoil(b))]++
				}
			}
		}
	}
	for kind, counts := range seen {
		for _, e := range []api.Errno{api.OK, api.ErrEnds, api.ErrForm, api.ErrMore, api.ErrKey, api.ErrValue, api.ErrField} {
			never := kind == "master" && (e == api.ErrKey || e == api.ErrValue) || kind == "write" && e == api.ErrMore
			if never != (counts[e] == 0) {
				t.Errorf("%s: error %d was met %d times", kind, e, counts[e])
			}
		}
	}
}

// P3.3 and P3.5: all changes of one byte of some records.
func TestTakeOfChangedBytes(t *testing.T) {
	c, _ := record.Commit(api.Commit{TS: 300, Writes: []api.Write{{Key: "a", Value: "1"}, {Key: "b", Del: true}}})
	k, _ := record.Chunk(api.Chunk{Number: 2, List: []api.Stamped{{Key: "a", Value: "1", TS: 101}, {Key: "b", TS: 5}}})
	m, _ := record.Master(api.Master{Seq: 300, Area: 1, Chunks: 101, TS: 9, Mark: api.Mark{Sector: 3, Offset: 511, Number: 8, Run: 5}})
	for _, b := range [][]byte{c, k, m} {
		for at := range b {
			was := b[at]
			for x := range 256 {
				b[at] = byte(x)
				againCommit(t, b)
				againChunk(t, b)
				againMaster(t, b)
				againWrite(t, b)
				againWrite(t, b[at:])
			}
			b[at] = was
		}
	}
}

// P3.6: a beginning of a commit's bytes is refused with ErrEnds; so it is of the others.
func TestTakeOfBeginnings(t *testing.T) {
	p := newPlenty(9, 0)
	for range 300 {
		w := p.write(p.text(1, 64))
		c, _ := record.Commit(p.commit())
		k, _ := record.Chunk(p.chunk())
		m, _ := record.Master(p.master())
		one, _ := record.PutWrite(nil, w)
		for n := range c {
			if got, e := record.TakeCommit(c[:n]); e != api.ErrEnds || got.TS != 0 || got.Writes != nil {
				t.Fatalf("%d of %v: %v, %d", n, c, got, e)
			}
		}
		for n := range k {
			if got, e := record.TakeChunk(k[:n]); e != api.ErrEnds || got.Number != 0 || got.Last || got.List != nil {
				t.Fatalf("%d of %v: %v, %d", n, k, got, e)
			}
		}
		for n := range m {
			if got, e := record.TakeMaster(m[:n]); e != api.ErrEnds || got != (api.Master{}) {
				t.Fatalf("%d of %v: %v, %d", n, m, got, e)
			}
		}
		for n := range one {
			if got, size, e := record.TakeWrite(one[:n]); e != api.ErrEnds || size != 0 || got != (api.Write{}) {
				t.Fatalf("%d of %v: %v, %d, %d", n, one, got, size, e)
			}
		}
	}
}
