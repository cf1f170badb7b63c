package wal

import (
	"iter"

	"cresset/api"
	"cresset/codec"
	"cresset/disk"
)

// ring is the sectors of a disk in which a log stands.
type ring struct {
	disk    *disk.Disk
	from    int
	sectors int
}

// sector is one of them, as it was read.
type sector struct {
	head head
	data []byte
}

// place is where on the disk the log's sector with a number stands.
func (r ring) place(number int64) int {
	return r.from + int(number%int64(r.sectors))
}

// read reads all sectors of the ring.
func (r ring) read() ([]sector, api.Errno) {
	l := make([]sector, r.sectors)
	for i := range l {
		b, e := r.disk.Read(r.from + i)
		if e != api.OK {
			return nil, e
		}
		h, data, e := unhead(b)
		if e != api.OK {
			h = head{seqAt: -1} // no sector has that number, so it never counts
		}
		l[i] = sector{h, data}
	}
	return l, api.OK
}

// greatest is the greatest run of all sectors.
func greatest(l []sector) int64 {
	run := int64(0)
	for _, s := range l {
		run = max(run, s.head[runAt])
	}
	return run
}

// counting goes through the sectors from a place on, up to where one does not count.
func counting(l []sector, m api.Mark) iter.Seq[sector] {
	return func(yield func(sector) bool) {
		least := m.Run
		for i := range int64(len(l)) {
			number := m.Sector + i
			s := l[number%int64(len(l))]
			if s.head[seqAt] != number || s.head[runAt] < least || !yield(s) || len(s.data) < api.WalData {
				return
			}
			least = s.head[runAt]
		}
	}
}

// rowFrom is the bytes of the row from the beginning of a place's sector on, and the runs with which its sectors were written.
func rowFrom(l []sector, m api.Mark) ([]byte, []int64) {
	var row []byte
	var runs []int64
	for s := range counting(l, m) {
		n, began := len(runs), s.head[beganAt]
		if n > 0 && s.head[runAt] > runs[n-1] && began < s.head[seqAt]*api.WalData {
			// that run wrote anew from there on, and what it wrote ahead of this sector is lost: also what stands there ahead of the place
			return row[:max(began-m.Sector*api.WalData, 0)], runs
		}
		row, runs = append(row, s.data...), append(runs, s.head[runAt])
	}
	return row, runs
}

// frames goes through the records whose frames stand one behind the other from b's beginning on, each with how many bytes its frame has.
func frames(b []byte) iter.Seq2[int, []byte] {
	return func(yield func(int, []byte) bool) {
		for rest := b; ; {
			x, size, e := codec.Unframe(rest)
			if e != api.OK || len(x) > api.MaxLog || !yield(size, x) {
				return
			}
			rest = rest[size:]
		}
	}
}
