package ckpt

import (
	"iter"
	"slices"

	"cresset/api"
	"cresset/disk"
)

// Writer writes a checkpoint chunk by chunk, as its pairs come.
type Writer struct {
	disk    *disk.Disk
	area    api.Area
	list    []api.Stamped // what is gathered, and not written yet
	written int
	done    bool
}

// New is a writer to an area that has written nothing.
func New(d *disk.Disk, a api.Area) (*Writer, api.Errno) {
	if e := lies(d, a); e != api.OK {
		return nil, e
	}
	return &Writer{disk: d, area: a}, api.OK
}

func (w *Writer) isMade() bool { return w != nil && w.disk != nil }

// writes tells why a writer takes no more.
func (w *Writer) writes() api.Errno {
	if !w.isMade() {
		return api.ErrMade
	}
	if w.done {
		return api.ErrCkpt
	}
	return api.OK
}

// Put gathers pairs, and writes the chunks that are full and not the last one.
func (w *Writer) Put(l ...api.Stamped) api.Errno {
	if e := w.writes(); e != api.OK {
		return e
	}
	all := slices.Concat(w.list, l)
	n, e := w.fill(all)
	w.list = slices.Clone(all[n:]) // so that what was written is kept no longer
	return e
}

// fill writes the chunks of pairs but the last one, which may grow still, and tells how many pairs were in them.
func (w *Writer) fill(l []api.Stamped) (int, api.Errno) {
	n := 0
	for c := range cut(l) {
		if c.Last {
			break
		}
		if e := w.write(c.List, false); e != api.OK {
			return n, e
		}
		n += len(c.List)
	}
	return n, api.OK
}

// Done writes what is left as the last chunk, makes all sure, and tells how many chunks there are.
func (w *Writer) Done() (int, api.Errno) {
	if e := w.writes(); e != api.OK {
		return 0, e
	}
	if e := w.write(w.list, true); e != api.OK {
		return 0, e
	}
	w.list = nil
	if e := w.disk.Barrier(); e != api.OK {
		return 0, e
	}
	w.done = true
	return w.written, api.OK
}

// write writes the next chunk.
func (w *Writer) write(l []api.Stamped, last bool) api.Errno {
	e := Write(w.disk, w.area, api.Chunk{Number: w.written, List: l, Last: last})
	if e == api.OK {
		w.written++
	}
	return e
}

// Written is how many chunks were written.
func (w *Writer) Written() int {
	if !w.isMade() {
		return 0
	}
	return w.written
}

// Cut goes through the chunks of pairs.
func Cut(l []api.Stamped) iter.Seq[api.Chunk] {
	return cut(slices.Clone(l))
}

// cut goes through the chunks of pairs that nobody changes.
func cut(l []api.Stamped) iter.Seq[api.Chunk] {
	last := (len(l) - 1) / api.MaxChunk // of no pairs 0, too
	return func(yield func(api.Chunk) bool) {
		for n := range last + 1 {
			from := n * api.MaxChunk
			to := min(from+api.MaxChunk, len(l))
			if !yield(api.Chunk{Number: n, List: slices.Clone(l[from:to]), Last: n == last}) {
				return
			}
		}
	}
}
