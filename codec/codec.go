// Package codec is layer 1: numbers, texts and flags as bytes, each in one form, and frames with a check. See shared/doc/01-codec.md.
package codec

import (
	"bytes"
	"iter"
	"math"
	"math/bits"

	"cresset/api"
)

const (
	leastShort = -100 // the ints from leastShort to mostShort are one byte
	mostShort  = 100
	zeroByte   = 108 // the byte of the int 0

	lowByte  = zeroByte + leastShort // first bytes below it tell that a lesser int follows
	highByte = zeroByte + mostShort  // first bytes above it tell that a greater int follows
	mostTail = 8                     // bytes that follow a first byte at most

	turned = 255 // turns over each bit of a byte
)

// PutInt is b and, behind it, the int n.
func PutInt(b []byte, n int64) []byte {
	return appendInt(copyWithRoom(b, Width(n)), n)
}

// Int is the int with which b begins, and how many bytes it has.
func Int(b []byte) (int64, int, api.Errno) {
	if len(b) == 0 {
		return 0, 0, api.ErrEnds
	}
	first := int(b[0])
	switch {
	case first > highByte+mostTail:
		return 0, 0, api.ErrForm
	case first > highByte:
		return longInt(b, first-highByte, 0)
	case first < lowByte:
		return longInt(b, lowByte-first, turned)
	}
	return int64(first - zeroByte), 1, api.OK
}

// PutText is b and, behind it, the text s.
func PutText(b []byte, s string) []byte {
	n := int64(len(s))
	return append(appendInt(copyWithRoom(b, Width(n)+len(s)), n), s...)
}

// Text is the text with which b begins, and how many bytes it has with its length.
func Text(b []byte) (string, int, api.Errno) {
	n, size, e := Int(b)
	switch {
	case e != api.OK:
		return "", 0, e
	case n < 0:
		return "", 0, api.ErrForm
	case n > int64(len(b)-size):
		return "", 0, api.ErrEnds
	}
	end := size + int(n)
	return string(b[size:end]), end, api.OK
}

// PutFlag is b and, behind it, the flag.
func PutFlag(b []byte, yes bool) []byte {
	if yes {
		return PutInt(b, 1)
	}
	return PutInt(b, 0)
}

// Flag is the flag with which b begins, and how many bytes it has.
func Flag(b []byte) (bool, int, api.Errno) {
	n, size, e := Int(b)
	switch {
	case e != api.OK:
		return false, 0, e
	case n != 0 && n != 1:
		return false, 0, api.ErrForm
	}
	return n == 1, size, api.OK
}

// Width is how many bytes the int n has.
func Width(n int64) int {
	if leastShort <= n && n <= mostShort {
		return 1
	}
	return 1 + (bits.Len64(uint64(max(n, -1-n)))+7)/8
}

// Ints goes through the ints from b's beginning on, each with its place, up to where none can be read.
func Ints(b []byte) iter.Seq2[int, int64] {
	own := bytes.Clone(b) // b's owner may write to it before or while the iterator is run
	return func(yield func(int, int64) bool) {
		for at := 0; ; {
			n, size, e := Int(own[at:])
			if e != api.OK || !yield(at, n) {
				return
			}
			at += size
		}
	}
}

// copyWithRoom keeps what is answered apart from what was handed in: appending to b itself could write behind its end.
func copyWithRoom(b []byte, more int) []byte {
	return append(make([]byte, 0, len(b)+more), b...)
}

// appendInt needs no case of its own for the bytes below zero: those of -1 - n, each turned over, are n's own lowest ones.
func appendInt(b []byte, n int64) []byte {
	tail := Width(n) - 1
	switch {
	case tail == 0:
		return append(b, byte(n+zeroByte))
	case n > 0:
		return appendNumber(append(b, byte(highByte+tail)), uint64(n), tail)
	}
	return appendNumber(append(b, byte(lowByte-tail)), uint64(n), tail)
}

// longInt is the int that the bytes behind b's first one say, each turned over by turn (0 or turned).
func longInt(b []byte, tail int, turn byte) (int64, int, api.Errno) {
	size := 1 + tail
	if len(b) < size {
		return 0, 0, api.ErrEnds
	}
	m := number(b[1:size], turn)
	if m > math.MaxInt64 {
		return 0, 0, api.ErrForm
	}
	n := int64(m)
	if turn == turned {
		n = -1 - n
	}
	if Width(n) != size { // one form alone may be read, or two different bytes would say the same int
		return 0, 0, api.ErrForm
	}
	return n, size, api.OK
}

// appendNumber appends the lowest bytes of m, so many, the highest of them first: so bytes have the order of numbers.
func appendNumber(b []byte, m uint64, many int) []byte {
	for k := many - 1; k >= 0; k-- {
		b = append(b, byte(m>>(8*k)))
	}
	return b
}

func number(b []byte, turn byte) uint64 {
	m := uint64(0)
	for _, x := range b {
		m = m<<8 | uint64(x^turn)
	}
	return m
}
