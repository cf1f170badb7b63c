package record_test

import (
	"bytes"
	"slices"
	"strings"
	"testing"

	"cresset/api"
	"cresset/record"
)

func wantBytes(t *testing.T, what string, got []byte, e api.Errno, wanted ...byte) {
	t.Helper()
	if e != api.OK || !bytes.Equal(got, wanted) {
		t.Errorf("%s: %v, %d, want %v", what, got, e, wanted)
	}
}

// The chapter's examples.
func TestExamples(t *testing.T) {
	b, e := record.Commit(api.Commit{TS: 3, Writes: []api.Write{{Key: "a", Value: "1"}}})
	wantBytes(t, "TS 3, a to 1", b, e, 111, 109, 109, 97, 108, 109, 49)
	two := api.Commit{TS: 3, Writes: []api.Write{{Key: "a", Value: "1"}, {Key: "a", Value: "1"}}}
	want(t, "two writes of a", record.CheckCommit(two), api.ErrField)
	m, e := record.TakeMaster([]byte{2})
	if m != (api.Master{}) || e != api.ErrEnds {
		t.Errorf("TakeMaster of 2 = %v, %d", m, e)
	}
}

// P3.2: the bytes of a write, by hand.
func TestBytesOfAWrite(t *testing.T) {
	b, e := record.PutWrite(nil, api.Write{Key: "a", Value: "1"})
	wantBytes(t, "a to 1", b, e, 109, 97, 108, 109, 49)
	b, e = record.PutWrite([]byte{}, api.Write{Key: "a"})
	wantBytes(t, "a to nothing", b, e, 109, 97, 108, 108)
	b, e = record.PutWrite(nil, api.Write{Key: "bc", Del: true})
	wantBytes(t, "bc gone", b, e, 110, 98, 99, 109, 108)
	b, e = record.PutWrite([]byte{1, 217, 255}, api.Write{Key: "\x00\xff", Value: "\xfe"})
	wantBytes(t, "behind others", b, e, 1, 217, 255, 110, 0, 255, 108, 109, 254)
	b, e = record.PutWrite(nil, api.Write{Key: longKey, Value: longValue})
	wantBytes(t, "the longest", b, e, slices.Concat([]byte{172}, []byte(longKey), []byte{108, 210, 1, 0}, []byte(longValue))...)
}

// P3.2: the bytes of a commit, a chunk, a master, by hand: each field at its place.
func TestBytesByHand(t *testing.T) {
	b, e := record.Commit(api.Commit{TS: 300, Writes: []api.Write{{Key: "a", Value: "1"}, {Key: "b", Del: true}, {Key: "c"}}})
	wantBytes(t, "a commit", b, e, 210, 1, 44, 111, 109, 97, 108, 109, 49, 109, 98, 109, 108, 109, 99, 108, 108)

	b, e = record.Chunk(api.Chunk{Number: 2, Last: true, List: []api.Stamped{{Key: "k", Value: "v", TS: 5}, {Key: "l", TS: 1 << 40}}})
	wantBytes(t, "a chunk", b, e, 110, 109, 110, 109, 107, 109, 118, 113, 109, 108, 108, 214, 1, 0, 0, 0, 0, 0)
	b, e = record.Chunk(api.Chunk{Number: 4095})
	wantBytes(t, "a chunk without pairs", b, e, 210, 15, 255, 108, 108)
	b, e = record.Chunk(api.Chunk{Last: true, List: []api.Stamped{}})
	wantBytes(t, "the only chunk of nothing", b, e, 108, 109, 108)

	m := api.Master{Seq: 4, Area: 1, Chunks: 2, TS: 9, Mark: api.Mark{Sector: 3, Offset: 7, Number: 8, Run: 5}}
	b, e = record.Master(m)
	wantBytes(t, "a master", b, e, 112, 109, 110, 117, 111, 115, 116, 113)
	m = api.Master{Seq: 1 << 40, Chunks: 4096, Mark: api.Mark{Offset: 511, Number: 101}}
	b, e = record.Master(m)
	wantBytes(t, "another master", b, e, 214, 1, 0, 0, 0, 0, 0, 108, 210, 16, 0, 108, 108, 210, 1, 255, 209, 101, 108)
}

// P3.2: MaxBytes with what stands ahead, and not one more; CheckWrite's error comes first.
func TestPutWriteAtTheLimit(t *testing.T) {
	ahead := bytes.Repeat([]byte{3}, api.MaxBytes+1)
	for _, w := range []api.Write{{Key: "a", Value: "1"}, {Key: "a", Del: true}, {Key: longKey, Value: longValue}} {
		own := rawWrite(w)
		room := api.MaxBytes - len(own)
		b, e := record.PutWrite(ahead[:room], w)
		if e != api.OK || len(b) != api.MaxBytes || !bytes.Equal(b[:room], ahead[:room]) || !bytes.Equal(b[room:], own) {
			t.Errorf("up to the limit: %d bytes, error %d", len(b), e)
		}
		for _, n := range []int{room + 1, room + 2, api.MaxBytes - 1, api.MaxBytes, api.MaxBytes + 1} {
			if b, e := record.PutWrite(ahead[:n], w); b != nil || e != api.ErrLong {
				t.Errorf("behind %d bytes: %d bytes, error %d", n, len(b), e)
			}
		}
	}
	for _, c := range []struct {
		w    api.Write
		want api.Errno
	}{
		{api.Write{}, api.ErrKey},
		{api.Write{Key: "a", Value: longValue + "v"}, api.ErrValue},
		{api.Write{Key: "a", Value: "1", Del: true}, api.ErrField},
	} {
		if b, e := record.PutWrite(ahead, c.w); b != nil || e != c.want {
			t.Errorf("a wrong write behind too much: %d bytes, error %d, want %d", len(b), e, c.want)
		}
	}
}

// P3.2: many records, field by field.
func TestBytesOfManyRecords(t *testing.T) {
	p := newPlenty(5, 0)
	for range 3000 {
		c, k, m := p.commit(), p.chunk(), p.master()
		b, e := record.Commit(c)
		wantBytes(t, "a commit", b, e, rawCommit(c, len(c.Writes))...)
		b, e = record.Chunk(k)
		wantBytes(t, "a chunk", b, e, rawChunk(k, len(k.List))...)
		b, e = record.Master(m)
		wantBytes(t, "a master", b, e, rawMaster(m)...)
		b, e = record.PutWrite(b, c.Writes[0])
		wantBytes(t, "a write", b, e, append(rawMaster(m), rawWrite(c.Writes[0])...)...)
	}
}

// P3.2: the greatest records are below MaxBytes.
func TestGreatestRecords(t *testing.T) {
	c := api.Commit{TS: 1 << 40}
	k := api.Chunk{Number: 4095, Last: true}
	for i := range 64 {
		key := string([]byte{byte(i)}) + longKey[1:]
		c.Writes = append(c.Writes, api.Write{Key: key, Value: longValue})
		if i < 16 {
			k.List = append(k.List, api.Stamped{Key: key, Value: longValue, TS: 1 << 40})
		}
	}
	b, e := record.Commit(c)
	if size := 7 + 1 + 64*(1+64+1+3+256); e != api.OK || len(b) != size || len(b) > api.MaxBytes {
		t.Errorf("the greatest commit has %d bytes, error %d", len(b), e)
	}
	if back, e := record.TakeCommit(b); e != api.OK || !record.SameCommit(back, c) {
		t.Errorf("the greatest commit is read otherwise, error %d", e)
	}
	b, e = record.Chunk(k)
	if size := 3 + 1 + 1 + 16*(1+64+3+256+7); e != api.OK || len(b) != size || len(b) > api.MaxBytes {
		t.Errorf("the greatest chunk has %d bytes, error %d", len(b), e)
	}
	if back, e := record.TakeChunk(b); e != api.OK || !record.SameChunk(back, k) {
		t.Errorf("the greatest chunk is read otherwise, error %d", e)
	}
}

// P3.4: commits are the same field by field.
func TestSameCommit(t *testing.T) {
	whole := func() api.Commit {
		return api.Commit{TS: 3, Writes: []api.Write{{Key: "a", Value: "1"}, {Key: "b", Del: true}}}
	}
	if !record.SameCommit(whole(), whole()) {
		t.Error("alike, and not the same")
	}
	for why, change := range map[string]func(c *api.Commit){
		"TS":            func(c *api.Commit) { c.TS = 4 },
		"a key":         func(c *api.Commit) { c.Writes[0].Key = "A" },
		"the last key":  func(c *api.Commit) { c.Writes[1].Key = "c" },
		"a value":       func(c *api.Commit) { c.Writes[0].Value = "2" },
		"no value":      func(c *api.Commit) { c.Writes[0].Value = "" },
		"gone":          func(c *api.Commit) { c.Writes[0].Del = true },
		"not gone":      func(c *api.Commit) { c.Writes[1].Del = false },
		"fewer":         func(c *api.Commit) { c.Writes = c.Writes[:1] },
		"none":          func(c *api.Commit) { c.Writes = nil },
		"more":          func(c *api.Commit) { c.Writes = append(c.Writes, api.Write{}) },
		"another order": func(c *api.Commit) { slices.Reverse(c.Writes) },
	} {
		c := whole()
		change(&c)
		if record.SameCommit(c, whole()) || record.SameCommit(whole(), c) || !record.SameCommit(c, c) {
			t.Errorf("%s: not told apart", why)
		}
	}
	none, empty := api.Commit{TS: 1}, api.Commit{TS: 1, Writes: []api.Write{}}
	if !record.SameCommit(none, empty) || !record.SameCommit(empty, none) || !record.SameCommit(api.Commit{}, api.Commit{}) {
		t.Error("empty and nil lists are not the same")
	}
}

// P3.4: chunks are the same field by field.
func TestSameChunk(t *testing.T) {
	whole := func() api.Chunk {
		return api.Chunk{Number: 3, List: []api.Stamped{{Key: "a", Value: "1", TS: 5}, {Key: "b", TS: 6}}}
	}
	if !record.SameChunk(whole(), whole()) {
		t.Error("alike, and not the same")
	}
	for why, change := range map[string]func(c *api.Chunk){
		"Number":        func(c *api.Chunk) { c.Number = 4 },
		"Last":          func(c *api.Chunk) { c.Last = true },
		"a key":         func(c *api.Chunk) { c.List[0].Key = "A" },
		"a value":       func(c *api.Chunk) { c.List[1].Value = "2" },
		"a timestamp":   func(c *api.Chunk) { c.List[1].TS = 5 },
		"fewer":         func(c *api.Chunk) { c.List = c.List[:1] },
		"none":          func(c *api.Chunk) { c.List = nil },
		"more":          func(c *api.Chunk) { c.List = append(c.List, api.Stamped{}) },
		"another order": func(c *api.Chunk) { slices.Reverse(c.List) },
	} {
		c := whole()
		change(&c)
		if record.SameChunk(c, whole()) || record.SameChunk(whole(), c) || !record.SameChunk(c, c) {
			t.Errorf("%s: not told apart", why)
		}
	}
	none, empty := api.Chunk{Number: 1}, api.Chunk{Number: 1, List: []api.Stamped{}}
	if !record.SameChunk(none, empty) || !record.SameChunk(empty, none) || !record.SameChunk(api.Chunk{}, api.Chunk{}) {
		t.Error("empty and nil lists are not the same")
	}
}

// P3.4: what is the same need not be a record that may be.
func TestSameOfWhatMayNotBe(t *testing.T) {
	c := api.Commit{TS: -1, Writes: []api.Write{{Value: strings.Repeat("v", 1000), Del: true}, {}}}
	k := api.Chunk{Number: -1, List: []api.Stamped{{Value: strings.Repeat("v", 1000), TS: -1}, {}}}
	if !record.SameCommit(c, c) || !record.SameChunk(k, k) {
		t.Error("not the same")
	}
}

// P3.6: commits that are not the same have unlike bytes.
func TestUnlikeCommitsHaveUnlikeBytes(t *testing.T) {
	p := newPlenty(6, 0)
	held := map[string]api.Commit{}
	again := 0
	for range 20000 {
		c := p.commit()
		if p.IntN(2) == 0 { // few that are short, so that some come twice
			c = api.Commit{TS: 1 + p.Int64N(3), Writes: []api.Write{p.write("a"), p.write("b")}[:1+p.IntN(2)]}
		}
		b, e := record.Commit(c)
		want(t, "Commit", e, api.OK)
		other, ok := held[string(b)]
		if ok && !record.SameCommit(c, other) {
			t.Fatalf("%v and %v have the same bytes", c, other)
		}
		if ok {
			again++
		}
		held[string(b)] = c
	}
	if again < 100 {
		t.Errorf("only %d commits came twice", again)
	}
}

// P3.6: texts whose bytes run on into the next field's are told apart by their lengths.
func TestNeighboursHaveUnlikeBytes(t *testing.T) {
	var all [][]byte
	for _, l := range [][]api.Write{
		{{Key: "ab", Value: ""}}, {{Key: "a", Value: "b"}}, {{Key: "a", Value: ""}}, {{Key: "a", Del: true}},
		{{Key: "a"}, {Key: "b"}}, {{Key: "a\x6c\x6c\x6db"}}, {{Key: "a", Value: "\x6db\x6c\x6c"}},
	} {
		b, e := record.Commit(api.Commit{TS: 1, Writes: l})
		want(t, "Commit", e, api.OK)
		for _, x := range all {
			if bytes.Equal(x, b) {
				t.Errorf("%v has another's bytes", l)
			}
		}
		all = append(all, b)
	}
}
