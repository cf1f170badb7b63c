package record_test

import (
	"bytes"
	"math"
	"math/rand/v2"
	"slices"
	"strings"

	"cresset/api"
	"cresset/codec"
)

// The document's words on records, written down a second time: checks as lists of rules in their order, reading as a run that a panic ends.

// rule is an error, and whether it applies.
type rule struct {
	broken bool
	e      api.Errno
}

func firstBroken(l []rule) api.Errno {
	for _, x := range l {
		if x.broken {
			return x.e
		}
	}
	return api.OK
}

func writeRules(w api.Write) []rule {
	return []rule{
		{len(w.Key) < 1 || len(w.Key) > 64, 30},
		{len(w.Value) > 256, 31},
		{w.Del && len(w.Value) > 0, 32},
	}
}

func commitRules(c api.Commit) []rule {
	l := []rule{{c.TS < 1 || c.TS > 1<<40, 32}, {len(c.Writes) < 1 || len(c.Writes) > 64, 32}}
	for i, w := range c.Writes {
		l = append(l, writeRules(w)...)
		l = append(l, rule{i > 0 && strings.Compare(c.Writes[max(i, 1)-1].Key, w.Key) >= 0, 32})
	}
	return l
}

func chunkRules(c api.Chunk) []rule {
	l := []rule{{c.Number < 0 || c.Number > 4095, 32}, {len(c.List) > 16, 32}}
	for i, s := range c.List {
		l = append(l, writeRules(api.Write{Key: s.Key, Value: s.Value})...)
		l = append(l, rule{s.TS < 1 || s.TS > 1<<40, 32})
		l = append(l, rule{i > 0 && strings.Compare(c.List[max(i, 1)-1].Key, s.Key) >= 0, 32})
	}
	return l
}

func masterRules(m api.Master) []rule {
	return []rule{
		{m.Seq < 1 || m.Seq > 1<<40, 32},
		{m.Area != 0 && m.Area != 1, 32},
		{m.Chunks < 1 || m.Chunks > 4096, 32},
		{m.TS < 0 || m.TS > 1<<40, 32},
		{m.Mark.Sector < 0 || m.Mark.Sector > 1<<40, 32},
		{m.Mark.Number < 0 || m.Mark.Number > 1<<40, 32},
		{m.Mark.Run < 0 || m.Mark.Run > 1<<40, 32},
		{m.Mark.Offset < 0 || m.Mark.Offset > 511, 32},
	}
}

// raw is the bytes of fields one behind the other, whatever they say: numbers, texts and flags.
func raw(l ...any) []byte {
	var b []byte
	for _, x := range l {
		switch v := x.(type) {
		case int:
			b = codec.PutInt(b, int64(v))
		case int64:
			b = codec.PutInt(b, v)
		case string:
			b = codec.PutText(b, v)
		case bool:
			b = codec.PutFlag(b, v)
		case []byte:
			b = append(b, v...)
		default:
			panic("no such field")
		}
	}
	return b
}

func rawWrite(w api.Write) []byte { return raw(w.Key, w.Del, w.Value) }

func rawCommit(c api.Commit, count int) []byte {
	b := raw(c.TS, count)
	for _, w := range c.Writes {
		b = append(b, rawWrite(w)...)
	}
	return b
}

func rawChunk(c api.Chunk, count int) []byte {
	b := raw(c.Number, c.Last, count)
	for _, s := range c.List {
		b = append(b, raw(s.Key, s.Value, s.TS)...)
	}
	return b
}

func rawMaster(m api.Master) []byte {
	return raw(m.Seq, m.Area, m.Chunks, m.TS, m.Mark.Sector, m.Mark.Offset, m.Mark.Number, m.Mark.Run)
}

// cursor reads; an error is a panic with its number.
type cursor struct{ b []byte }

func (c *cursor) number() int64 {
	n, size, e := codec.Int(c.b)
	c.pass(size, e)
	return n
}

func (c *cursor) text() string {
	s, size, e := codec.Text(c.b)
	c.pass(size, e)
	return s
}

func (c *cursor) flag() bool {
	yes, size, e := codec.Flag(c.b)
	c.pass(size, e)
	return yes
}

func (c *cursor) pass(size int, e api.Errno) {
	stop(e)
	c.b = c.b[size:]
}

func (c *cursor) write() api.Write {
	w := api.Write{Key: c.text()}
	w.Del = c.flag()
	w.Value = c.text()
	stop(firstBroken(writeRules(w)))
	return w
}

func (c *cursor) count(most int64) int64 {
	n := c.number()
	if n < 0 || n > most {
		stop(32)
	}
	return n
}

func (c *cursor) whole(l []rule) {
	if len(c.b) > 0 {
		stop(13)
	}
	stop(firstBroken(l))
}

func stop(e api.Errno) {
	if e != api.OK {
		panic(e)
	}
}

// reading is what read comes to, or the error that stopped it.
func reading[T any](b []byte, read func(c *cursor) T) (x T, e api.Errno) {
	defer func() {
		if p := recover(); p != nil {
			var none T
			x, e = none, p.(api.Errno)
		}
	}()
	return read(&cursor{b}), api.OK
}

func refTakeWrite(b []byte) (api.Write, int, api.Errno) {
	size := 0
	w, e := reading(b, func(c *cursor) api.Write {
		w := c.write()
		size = len(b) - len(c.b)
		return w
	})
	return w, size, e
}

func refTakeCommit(b []byte) (api.Commit, api.Errno) {
	return reading(b, func(c *cursor) api.Commit {
		out := api.Commit{TS: c.number()}
		for n := c.count(64); n > 0; n-- {
			out.Writes = append(out.Writes, c.write())
		}
		c.whole(commitRules(out))
		return out
	})
}

func refTakeChunk(b []byte) (api.Chunk, api.Errno) {
	return reading(b, func(c *cursor) api.Chunk {
		out := api.Chunk{Number: int(c.number())}
		out.Last = c.flag()
		for n := c.count(16); n > 0; n-- {
			s := api.Stamped{Key: c.text()}
			s.Value = c.text()
			s.TS = c.number()
			out.List = append(out.List, s)
		}
		c.whole(chunkRules(out))
		return out
	})
}

func refTakeMaster(b []byte) (api.Master, api.Errno) {
	return reading(b, func(c *cursor) api.Master {
		var n [8]int64
		for i := range n {
			n[i] = c.number()
		}
		out := api.Master{Seq: n[0], Area: int(n[1]), Chunks: int(n[2]), TS: n[3], Mark: api.Mark{Sector: n[4], Offset: int(n[5]), Number: n[6], Run: n[7]}}
		c.whole(masterRules(out))
		return out
	})
}

// plenty makes records, the same at each run; wild of 1,000 parts of them are drawn from what stands at or beyond an edge.
type plenty struct {
	*rand.Rand
	wild int
}

func newPlenty(seed uint64, wild int) plenty {
	return plenty{rand.New(rand.NewPCG(seed, 33)), wild}
}

func (p plenty) odd() bool { return p.IntN(1000) < p.wild }

func (p plenty) pick(l ...int64) int64 { return l[p.IntN(len(l))] }

// number is one from least to most, often an edge; or a wild one.
func (p plenty) number(least, most int64) int64 {
	switch {
	case p.odd():
		return p.pick(least-1, most+1, -1, 0, 1, 2, math.MinInt64, math.MaxInt64, -101, 1<<40+1)
	case p.IntN(3) == 0:
		return p.pick(least, most)
	}
	return least + p.Int64N(most-least+1)>>p.IntN(40)
}

// text has least to most bytes, drawn from few, so that keys are often alike or beginnings of each other.
func (p plenty) text(least, most int) string {
	n := least + p.IntN(3)
	switch {
	case p.odd():
		n = int(p.pick(0, int64(most)+1))
	case p.IntN(6) == 0:
		n = int(p.pick(int64(least), int64(most)))
	}
	b := make([]byte, n)
	for i := range b {
		b[i] = byte(p.pick(0, 'a', 'b', 127, 128, 255))
	}
	return string(b)
}

func (p plenty) count(least, most int) int {
	switch {
	case p.odd():
		return int(p.pick(0, int64(most), int64(most)+1))
	case p.IntN(10) == 0:
		return most
	}
	return least + p.IntN(4)
}

// keys are so many, rising; unless they are wild, when they stand as they were drawn.
func (p plenty) keys(many int) []string {
	l := make([]string, many)
	for i := range l {
		l[i] = p.text(1, 64)
	}
	if p.odd() {
		return l
	}
	slices.Sort(l)
	l = slices.Compact(l)
	for i := 0; len(l) < many; i++ { // in the room of those that were alike
		l = append(l, strings.Repeat("\xff", 40)+string(rune('a'+i/26))+string(rune('a'+i%26)))
		slices.Sort(l)
		l = slices.Compact(l)
	}
	return l
}

func (p plenty) write(key string) api.Write {
	w := api.Write{Key: key, Value: p.text(0, 256), Del: p.IntN(3) == 0}
	if w.Del && !p.odd() {
		w.Value = ""
	}
	return w
}

func (p plenty) commit() api.Commit {
	c := api.Commit{TS: p.number(1, 1<<40)}
	for _, k := range p.keys(p.count(1, 64)) {
		c.Writes = append(c.Writes, p.write(k))
	}
	return c
}

func (p plenty) chunk() api.Chunk {
	c := api.Chunk{Number: int(p.number(0, 4095)), Last: p.IntN(2) == 0}
	for _, k := range p.keys(p.count(0, 16)) {
		c.List = append(c.List, api.Stamped{Key: k, Value: p.text(0, 256), TS: p.number(1, 1<<40)})
	}
	return c
}

func (p plenty) master() api.Master {
	return api.Master{
		Seq: p.number(1, 1<<40), Area: int(p.number(0, 1)), Chunks: int(p.number(1, 4096)), TS: p.number(0, 1<<40),
		Mark: api.Mark{Sector: p.number(0, 1<<40), Offset: int(p.number(0, 511)), Number: p.number(0, 1<<40), Run: p.number(0, 1<<40)},
	}
}

// spoil is b, cut, changed at a byte, with bytes behind it or among it, or as it was.
func (p plenty) spoil(b []byte) []byte {
	b = bytes.Clone(b)
	at := p.IntN(len(b) + 1)
	some := byte(p.pick(0, 7, 8, 44, 107, 108, 109, 110, 172, 173, 208, 209, 216, 217, 255))
	switch p.IntN(6) {
	case 0:
		return b[:at]
	case 1:
		return append(b, some)
	case 2:
		return slices.Insert(b, at, some)
	case 3:
		if at < len(b) {
			b[at] = some
		}
	case 4:
		if at < len(b) {
			return slices.Delete(b, at, at+1)
		}
	}
	return b
}
