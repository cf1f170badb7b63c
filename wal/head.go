package wal

import (
	"bytes"

	"cresset/api"
	"cresset/codec"
)

// head is the numbers with which a sector of the log begins.
type head [3]int64

// The places of a head's numbers, in the order in which they stand on the disk.
const (
	seqAt   = iota // which of the log's sectors it is
	runAt          // the run with which it was written
	beganAt        // where that run began
)

// mostHead is the most that each of a head's numbers may be.
var mostHead = head{api.MaxTS, api.MaxTS, api.MaxTS * api.WalData}

const (
	sumBytes    = 4
	numberBytes = 8
	longBytes   = 2
)

// Head is a sector of the log: its number, its run, where that began, what it holds.
func Head(seq, run, began int64, data []byte) ([]byte, api.Errno) {
	h := head{seq, run, began}
	if !h.good() || len(data) > api.WalData {
		return nil, api.ErrArg
	}
	b := make([]byte, sumBytes, api.Sector)
	for _, n := range h {
		b = appendLow(b, uint64(n), numberBytes)
	}
	b = append(appendLow(b, uint64(len(data)), longBytes), data...)
	b = b[:api.Sector] // the room behind data was made of noughts
	copy(b, sumOf(b))
	return b, api.OK
}

// Unhead is what a sector of the log says.
func Unhead(b []byte) (int64, int64, int64, []byte, api.Errno) {
	h, data, e := unhead(b)
	return h[seqAt], h[runAt], h[beganAt], bytes.Clone(data), e
}

// unhead is Unhead, with data that is a part of b.
func unhead(b []byte) (head, []byte, api.Errno) {
	if len(b) != api.Sector {
		return head{}, nil, api.ErrArg
	}
	if !bytes.Equal(b[:sumBytes], sumOf(b)) {
		return head{}, nil, api.ErrCheck
	}
	var h head
	at := sumBytes
	for i := range h {
		h[i] = int64(low(b[at : at+numberBytes])) // one that no int64 is comes out below 0, which is refused, too
		at += numberBytes
	}
	long, rest := low(b[at:at+longBytes]), b[api.WalHead:]
	if !h.good() || long > api.WalData || !noughts(rest[long:]) {
		return head{}, nil, api.ErrForm
	}
	return h, rest[:long], api.OK
}

// good says whether a sector may have such numbers.
func (h head) good() bool {
	for i, n := range h {
		if n < 0 || n > mostHead[i] {
			return false
		}
	}
	return true
}

// sumOf is the sum with which a sector is to begin.
func sumOf(b []byte) []byte {
	return appendLow(nil, uint64(codec.Sum(b[sumBytes:])), sumBytes)
}

// appendLow appends the lowest bytes of n, so many, the lowest one first.
func appendLow(b []byte, n uint64, many int) []byte {
	for k := range many {
		b = append(b, byte(n>>(8*k)))
	}
	return b
}

// low is the number that bytes say, the lowest one first.
func low(b []byte) uint64 {
	n := uint64(0)
	for k, x := range b {
		n |= uint64(x) << (8 * k)
	}
	return n
}

func noughts(b []byte) bool {
	for _, x := range b {
		if x != 0 {
			return false
		}
	}
	return true
}
