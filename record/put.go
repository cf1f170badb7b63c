package record

import (
	"cresset/api"
	"cresset/codec"
)

// written is what has bytes of its own, if it may be.
type written interface {
	check() api.Errno
	fill(f *fields)
}

// The types of package api have no methods; embedded in these they can be written.
type (
	write  struct{ api.Write }
	commit struct{ api.Commit }
	chunk  struct{ api.Chunk }
	master struct{ api.Master }
)

func (w write) check() api.Errno  { return CheckWrite(w.Write) }
func (c commit) check() api.Errno { return CheckCommit(c.Commit) }
func (c chunk) check() api.Errno  { return CheckChunk(c.Chunk) }
func (m master) check() api.Errno { return CheckMaster(m.Master) }

func (w write) fill(f *fields) {
	f.text(w.Key)
	f.flag(w.Del)
	f.text(w.Value)
}

func (c commit) fill(f *fields) {
	f.number(c.TS)
	f.number(int64(len(c.Writes)))
	for _, w := range c.Writes {
		write{w}.fill(f)
	}
}

func (c chunk) fill(f *fields) {
	f.number(int64(c.Number))
	f.flag(c.Last)
	f.number(int64(len(c.List)))
	for _, s := range c.List {
		f.text(s.Key)
		f.text(s.Value)
		f.number(s.TS)
	}
}

func (m master) fill(f *fields) {
	f.number(m.Seq)
	f.number(int64(m.Area))
	f.number(int64(m.Chunks))
	f.number(m.TS)
	f.number(m.Mark.Sector)
	f.number(int64(m.Mark.Offset))
	f.number(m.Mark.Number)
	f.number(m.Mark.Run)
}

// bytesOf is the bytes of x, or why x may not be.
func bytesOf(x written) ([]byte, api.Errno) {
	if e := x.check(); e != api.OK {
		return nil, e
	}
	var f fields
	x.fill(&f)
	return f.bytes, api.OK
}

// fields gathers the bytes of fields. Each is put by codec behind nothing: behind all that stands ahead, codec would copy that anew for every field.
type fields struct{ bytes []byte }

func (f *fields) number(n int64) { f.bytes = append(f.bytes, codec.PutInt(nil, n)...) }
func (f *fields) text(s string)  { f.bytes = append(f.bytes, codec.PutText(nil, s)...) }
func (f *fields) flag(yes bool)  { f.bytes = append(f.bytes, codec.PutFlag(nil, yes)...) }
