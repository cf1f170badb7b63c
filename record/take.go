package record

import (
	"cresset/api"
	"cresset/codec"
)

// reader reads fields one by one. It remembers its first error, and reads nothing behind it, so that one look at the end is enough.
type reader struct {
	rest []byte
	err  api.Errno
}

// note remembers e, if it is an error and the first one.
func (r *reader) note(e api.Errno) {
	if r.err == api.OK {
		r.err = e
	}
}

// field is the next field, as one of codec's calls reads it.
func field[T any](r *reader, read func([]byte) (T, int, api.Errno)) T {
	var none T
	if r.err != api.OK {
		return none
	}
	x, size, e := read(r.rest)
	r.note(e)
	r.rest = r.rest[size:]
	return x
}

func (r *reader) number() int64 { return field(r, codec.Int) }
func (r *reader) text() string  { return field(r, codec.Text) }
func (r *reader) flag() bool    { return field(r, codec.Flag) }

// count is how many parts follow. One that may not be is told at once: nothing is to be read, or room made, for it.
func (r *reader) count(most int64) int {
	n := r.number()
	if !within(n, 0, most) {
		r.note(api.ErrField)
		return 0
	}
	return int(n)
}

func (r *reader) write() api.Write {
	var w api.Write
	w.Key = r.text()
	w.Del = r.flag()
	w.Value = r.text()
	r.note(CheckWrite(w))
	return w
}

func (r *reader) stamped() api.Stamped {
	var s api.Stamped
	s.Key = r.text()
	s.Value = r.text()
	s.TS = r.number()
	return s
}

func (r *reader) commit() api.Commit {
	var c api.Commit
	c.TS = r.number()
	for range r.count(api.MaxWrites) {
		c.Writes = append(c.Writes, r.write())
	}
	return c
}

func (r *reader) chunk() api.Chunk {
	var c api.Chunk
	c.Number = int(r.number())
	c.Last = r.flag()
	for range r.count(api.MaxChunk) {
		c.List = append(c.List, r.stamped())
	}
	return c
}

func (r *reader) master() api.Master {
	var m api.Master
	m.Seq = r.number()
	m.Area = int(r.number())
	m.Chunks = int(r.number())
	m.TS = r.number()
	m.Mark.Sector = r.number()
	m.Mark.Offset = int(r.number())
	m.Mark.Number = r.number()
	m.Mark.Run = r.number()
	return m
}

// end tells why what was read, x, is not what all the bytes say.
func (r *reader) end(x written) api.Errno {
	if len(r.rest) > 0 {
		r.note(api.ErrMore)
	}
	r.note(x.check())
	return r.err
}
