package record_test

import (
	"math"
	"strings"
	"testing"

	"cresset/api"
	"cresset/record"
)

func want(t *testing.T, what string, got, wanted api.Errno) {
	t.Helper()
	if got != wanted {
		t.Errorf("%s: error %d, want %d", what, got, wanted)
	}
}

var (
	longKey   = strings.Repeat("k", 64)
	longValue = strings.Repeat("v", 256)
)

// P3.1: a key has 1 to 64 bytes, any.
func TestKey(t *testing.T) {
	want(t, "no bytes", record.Key(""), api.ErrKey)
	for n := 1; n <= 200; n++ {
		wanted := api.OK
		if n > 64 {
			wanted = api.ErrKey
		}
		for _, c := range []string{"a", "\x00", "\xff", " "} {
			want(t, "a key", record.Key(strings.Repeat(c, n)), wanted)
		}
	}
	for c := range 256 {
		want(t, "a key of one byte", record.Key(string([]byte{byte(c)})), api.OK)
	}
	want(t, "32 letters of two bytes", record.Key(strings.Repeat("é", 32)), api.OK)
	want(t, "33 letters of two bytes", record.Key(strings.Repeat("é", 33)), api.ErrKey)
	want(t, "a great one", record.Key(strings.Repeat("a", 1<<22)), api.ErrKey)
}

// P3.1: a value has at most 256 bytes, any.
func TestValue(t *testing.T) {
	for n := 0; n <= 600; n++ {
		wanted := api.OK
		if n > 256 {
			wanted = api.ErrValue
		}
		for _, c := range []string{"a", "\x00", "\xff"} {
			want(t, "a value", record.Value(strings.Repeat(c, n)), wanted)
		}
	}
	want(t, "128 letters of two bytes", record.Value(strings.Repeat("é", 128)), api.OK)
	want(t, "129 letters of two bytes", record.Value(strings.Repeat("é", 129)), api.ErrValue)
	want(t, "a great one", record.Value(strings.Repeat("a", 1<<22)), api.ErrValue)
}

// P3.1: of a write the key's error, the value's, and the field's, in this order.
func TestCheckWrite(t *testing.T) {
	for _, c := range []struct {
		why  string
		w    api.Write
		want api.Errno
	}{
		{"a value", api.Write{Key: "a", Value: "1"}, api.OK},
		{"the empty value", api.Write{Key: "a"}, api.OK},
		{"gone", api.Write{Key: "a", Del: true}, api.OK},
		{"the longest ones", api.Write{Key: longKey, Value: longValue}, api.OK},
		{"no key", api.Write{Value: "1"}, api.ErrKey},
		{"nothing", api.Write{}, api.ErrKey},
		{"a key of 65", api.Write{Key: longKey + "k", Value: "1"}, api.ErrKey},
		{"a value of 257", api.Write{Key: "a", Value: longValue + "v"}, api.ErrValue},
		{"gone with a value", api.Write{Key: "a", Value: "1", Del: true}, api.ErrField},
		{"gone with a byte 0", api.Write{Key: "a", Value: "\x00", Del: true}, api.ErrField},
		{"key ahead of value", api.Write{Value: longValue + "v"}, api.ErrKey},
		{"key ahead of field", api.Write{Value: "1", Del: true}, api.ErrKey},
		{"value ahead of field", api.Write{Key: "a", Value: longValue + "v", Del: true}, api.ErrValue},
		{"key ahead of all", api.Write{Key: longKey + "k", Value: longValue + "v", Del: true}, api.ErrKey},
	} {
		want(t, c.why, record.CheckWrite(c.w), c.want)
		if _, e := record.PutWrite(nil, c.w); e != c.want {
			t.Errorf("%s: PutWrite's error is %d, want %d", c.why, e, c.want)
		}
	}
}

// manyWrites are n writes of keys that rise.
func manyWrites(n int) []api.Write {
	var l []api.Write
	for i := range n {
		l = append(l, api.Write{Key: string([]byte{'k', byte(i / 200), byte(i % 200)}), Value: "v"})
	}
	return l
}

func keysOf(l ...string) []api.Write {
	var w []api.Write
	for _, k := range l {
		w = append(w, api.Write{Key: k})
	}
	return w
}

// P3.1: a commit's timestamp and how many writes it has.
func TestCheckCommitEdges(t *testing.T) {
	for _, ts := range []int64{1, 2, 1 << 39, 1<<40 - 1, 1 << 40} {
		want(t, "a timestamp", record.CheckCommit(api.Commit{TS: ts, Writes: keysOf("a")}), api.OK)
	}
	for _, ts := range []int64{0, -1, 1<<40 + 1, math.MinInt64, math.MaxInt64} {
		want(t, "no timestamp", record.CheckCommit(api.Commit{TS: ts, Writes: keysOf("a")}), api.ErrField)
	}
	for _, n := range []int{1, 2, 63, 64} {
		want(t, "writes", record.CheckCommit(api.Commit{TS: 1, Writes: manyWrites(n)}), api.OK)
	}
	for _, n := range []int{0, 65, 66, 10000} {
		want(t, "how many writes", record.CheckCommit(api.Commit{TS: 1, Writes: manyWrites(n)}), api.ErrField)
	}
	want(t, "an empty list", record.CheckCommit(api.Commit{TS: 1, Writes: []api.Write{}}), api.ErrField)
	want(t, "nothing", record.CheckCommit(api.Commit{}), api.ErrField)
}

// P3.1: keys rise byte by byte, a beginning being less than the whole.
func TestCheckCommitOrder(t *testing.T) {
	for _, l := range [][]string{
		{"a", "b"}, {"a", "ab"}, {"a", "a\x00"}, {"\x00", "\x00\x00"}, {"\x7f", "\x80"}, {"Z", "a"},
		{"10", "9"}, {"\xfe\xff", "\xff"}, {"z", "é"}, {longKey[:63], longKey}, {"a", "b", "c"},
	} {
		want(t, strings.Join(l, " "), record.CheckCommit(api.Commit{TS: 1, Writes: keysOf(l...)}), api.OK)
	}
	for _, l := range [][]string{
		{"a", "a"}, {"b", "a"}, {"ab", "a"}, {"\x00\x00", "\x00"}, {"\x80", "\x7f"}, {"a", "Z"},
		{"9", "10"}, {longKey, longKey[:63]}, {"a", "b", "b"}, {"a", "c", "b"}, {"b", "a", "c"}, {"a", "b", "a"},
	} {
		want(t, strings.Join(l, " "), record.CheckCommit(api.Commit{TS: 1, Writes: keysOf(l...)}), api.ErrField)
	}
	two := []api.Write{{Key: "a", Value: "1"}, {Key: "a", Value: "2"}}
	want(t, "two writes of a", record.CheckCommit(api.Commit{TS: 3, Writes: two}), api.ErrField)
}

// P3.1: the error that stands first.
func TestCheckCommitFirstError(t *testing.T) {
	badValue := api.Write{Key: "b", Value: longValue + "v"}
	lowBadValue := api.Write{Key: "A", Value: longValue + "v"}
	goneValue := api.Write{Key: "b", Value: "1", Del: true}
	a := api.Write{Key: "a"}
	for _, c := range []struct {
		why  string
		ts   int64
		l    []api.Write
		want api.Errno
	}{
		{"a key of a commit", 1, []api.Write{{}}, api.ErrKey},
		{"a value of a commit", 1, []api.Write{a, badValue}, api.ErrValue},
		{"a gone one with a value", 1, []api.Write{a, goneValue}, api.ErrField},
		{"timestamp ahead of key", 0, []api.Write{{}}, api.ErrField},
		{"timestamp ahead of value", 1<<40 + 1, []api.Write{badValue}, api.ErrField},
		{"how many ahead of key", 1, append([]api.Write{{}}, manyWrites(64)...), api.ErrField},
		{"its own error ahead of the order", 1, []api.Write{a, lowBadValue}, api.ErrValue},
		{"an empty key ahead of the order", 1, []api.Write{a, {}}, api.ErrKey},
		{"the order of the second ahead of the third's value", 1, []api.Write{a, a, badValue}, api.ErrField},
		{"the second's value ahead of the third's key", 1, []api.Write{a, badValue, {}}, api.ErrValue},
		{"the second's value ahead of the third's order", 1, []api.Write{a, badValue, a}, api.ErrValue},
		{"the second's key ahead of the third's value", 1, []api.Write{a, {}, badValue}, api.ErrKey},
		{"a gone one with a value ahead of a key", 1, []api.Write{a, goneValue, {}}, api.ErrField},
		{"the last of 64", 1, append(manyWrites(63), api.Write{Key: "z" + longKey}), api.ErrKey},
	} {
		commit := api.Commit{TS: c.ts, Writes: c.l}
		want(t, c.why, record.CheckCommit(commit), c.want)
		if b, e := record.Commit(commit); b != nil || e != c.want {
			t.Errorf("%s: Commit = %v, %d, want error %d alone", c.why, b, e, c.want)
		}
	}
}

// manyStamped are n pairs of keys that rise.
func manyStamped(n int) []api.Stamped {
	var l []api.Stamped
	for _, w := range manyWrites(n) {
		l = append(l, api.Stamped{Key: w.Key, Value: w.Value, TS: 1})
	}
	return l
}

// P3.1: a chunk's number, how many pairs it has, their timestamps.
func TestCheckChunkEdges(t *testing.T) {
	for _, n := range []int{0, 1, 4094, 4095} {
		want(t, "a number", record.CheckChunk(api.Chunk{Number: n}), api.OK)
		want(t, "a number", record.CheckChunk(api.Chunk{Number: n, Last: true, List: manyStamped(3)}), api.OK)
	}
	for _, n := range []int{-1, 4096, 4097, math.MinInt, math.MaxInt} {
		want(t, "no number", record.CheckChunk(api.Chunk{Number: n, List: manyStamped(1)}), api.ErrField)
	}
	for _, n := range []int{0, 1, 15, 16} {
		want(t, "pairs", record.CheckChunk(api.Chunk{List: manyStamped(n)}), api.OK)
	}
	for _, n := range []int{17, 18, 10000} {
		want(t, "how many pairs", record.CheckChunk(api.Chunk{List: manyStamped(n)}), api.ErrField)
	}
	for _, ts := range []int64{1, 2, 1<<40 - 1, 1 << 40} {
		want(t, "a timestamp", record.CheckChunk(api.Chunk{List: []api.Stamped{{Key: "a", TS: ts}}}), api.OK)
	}
	for _, ts := range []int64{0, -1, 1<<40 + 1, math.MinInt64, math.MaxInt64} {
		want(t, "no timestamp", record.CheckChunk(api.Chunk{List: []api.Stamped{{Key: "a", TS: ts}}}), api.ErrField)
	}
}

// P3.1: the error of a chunk that stands first, and keys that rise.
func TestCheckChunkFirstError(t *testing.T) {
	over := longValue + "v"
	a := api.Stamped{Key: "a", TS: 1}
	for _, c := range []struct {
		why  string
		n    int
		l    []api.Stamped
		want api.Errno
	}{
		{"a beginning ahead of the whole", 0, []api.Stamped{a, {Key: "a\x00", TS: 1}}, api.OK},
		{"falling timestamps", 0, []api.Stamped{{Key: "a", TS: 9}, {Key: "b", TS: 2}}, api.OK},
		{"no key", 0, []api.Stamped{{TS: 1}}, api.ErrKey},
		{"a key of 65", 0, []api.Stamped{{Key: longKey + "k", TS: 1}}, api.ErrKey},
		{"a value of 257", 0, []api.Stamped{{Key: "a", Value: over, TS: 1}}, api.ErrValue},
		{"the same key", 0, []api.Stamped{a, a}, api.ErrField},
		{"a lower key", 0, []api.Stamped{a, {Key: "A", TS: 1}}, api.ErrField},
		{"number ahead of key", -1, []api.Stamped{{TS: 1}}, api.ErrField},
		{"number ahead of value", 4096, []api.Stamped{{Key: "a", Value: over, TS: 1}}, api.ErrField},
		{"how many ahead of key", 0, append([]api.Stamped{{TS: 1}}, manyStamped(16)...), api.ErrField},
		{"key ahead of value", 0, []api.Stamped{{Value: over}}, api.ErrKey},
		{"value ahead of timestamp", 0, []api.Stamped{{Key: "a", Value: over}}, api.ErrValue},
		{"value ahead of order", 0, []api.Stamped{a, {Key: "A", Value: over, TS: 1}}, api.ErrValue},
		{"an empty key ahead of order", 0, []api.Stamped{a, {TS: 1}}, api.ErrKey},
		{"a timestamp ahead of the next key", 0, []api.Stamped{{Key: "a"}, {TS: 1}}, api.ErrField},
		{"the order ahead of the next value", 0, []api.Stamped{a, a, {Key: "b", Value: over, TS: 1}}, api.ErrField},
		{"a value ahead of the next timestamp", 0, []api.Stamped{a, {Key: "b", Value: over, TS: 1}, {Key: "c"}}, api.ErrValue},
	} {
		chunk := api.Chunk{Number: c.n, List: c.l}
		want(t, c.why, record.CheckChunk(chunk), c.want)
		if b, e := record.Chunk(chunk); e != c.want || (b == nil) != (e != api.OK) {
			t.Errorf("%s: Chunk = %v, %d, want error %d alone", c.why, b, e, c.want)
		}
	}
}

// P3.1: each field of a master at its edges.
func TestCheckMaster(t *testing.T) {
	whole := api.Master{Seq: 4, Area: 1, Chunks: 2, TS: 9, Mark: api.Mark{Sector: 3, Offset: 7, Number: 9, Run: 2}}
	most := int64(1 << 40)
	for _, c := range []struct {
		name        string
		set         func(m *api.Master, n int64)
		least, most int64
	}{
		{"Seq", func(m *api.Master, n int64) { m.Seq = n }, 1, most},
		{"Area", func(m *api.Master, n int64) { m.Area = int(n) }, 0, 1},
		{"Chunks", func(m *api.Master, n int64) { m.Chunks = int(n) }, 1, 4096},
		{"TS", func(m *api.Master, n int64) { m.TS = n }, 0, most},
		{"Sector", func(m *api.Master, n int64) { m.Mark.Sector = n }, 0, most},
		{"Offset", func(m *api.Master, n int64) { m.Mark.Offset = int(n) }, 0, 511},
		{"Number", func(m *api.Master, n int64) { m.Mark.Number = n }, 0, most},
		{"Run", func(m *api.Master, n int64) { m.Mark.Run = n }, 0, most},
	} {
		m := whole
		for _, n := range []int64{c.least, c.least + 1, c.most - 1, c.most} {
			c.set(&m, n)
			want(t, c.name, record.CheckMaster(m), api.OK)
		}
		for _, n := range []int64{c.least - 1, c.most + 1, math.MinInt64, math.MaxInt64} {
			c.set(&m, n)
			want(t, c.name+" beyond", record.CheckMaster(m), api.ErrField)
			if b, e := record.Master(m); b != nil || e != api.ErrField {
				t.Errorf("%s beyond: Master = %v, %d", c.name, b, e)
			}
		}
	}
	want(t, "nothing", record.CheckMaster(api.Master{}), api.ErrField)
	want(t, "the least", record.CheckMaster(api.Master{Seq: 1, Chunks: 1}), api.OK)
}

// P3.1: many records, whole and not, against the rules in the document's order.
func TestChecksOfManyRecords(t *testing.T) {
	seen := map[api.Errno]int{}
	for seed, wild := range []int{0, 10, 60, 200} {
		p := newPlenty(uint64(seed), wild)
		for range 4000 {
			c, k, m := p.commit(), p.chunk(), p.master()
			if got, wanted := record.CheckCommit(c), firstBroken(commitRules(c)); got != wanted {
				t.Fatalf("CheckCommit(%v) = %d, want %d", c, got, wanted)
			}
			if got, wanted := record.CheckChunk(k), firstBroken(chunkRules(k)); got != wanted {
				t.Fatalf("CheckChunk(%v) = %d, want %d", k, got, wanted)
			}
			if got, wanted := record.CheckMaster(m), firstBroken(masterRules(m)); got != wanted {
				t.Fatalf("CheckMaster(%v) = %d, want %d", m, got, wanted)
			}
			seen[record.CheckCommit(c)]++
			for _, w := range c.Writes {
				if got, wanted := record.CheckWrite(w), firstBroken(writeRules(w)); got != wanted {
					t.Fatalf("CheckWrite(%v) = %d, want %d", w, got, wanted)
				}
			}
		}
	}
	for _, e := range []api.Errno{api.OK, api.ErrKey, api.ErrValue, api.ErrField} {
		if seen[e] < 100 {
			t.Errorf("error %d was met %d times alone", e, seen[e])
		}
	}
}
