package codec

import (
	"bytes"

	"cresset/api"
)

const (
	sumModulus = 65521
	sumBytes   = 4 // bytes of a frame's sum
)

// Sum is the check of the bytes of all lists, one behind the other.
func Sum(l ...[]byte) uint32 {
	first, second := uint32(1), uint32(0)
	for _, b := range l {
		for _, x := range b {
			first = lessModulus(first + uint32(x))
			second = lessModulus(second + first)
		}
	}
	return second<<16 | first
}

// lessModulus is n modulo sumModulus for an n below twice of it, which a sum of two remainders always is: cheaper than dividing at each byte.
func lessModulus(n uint32) uint32 {
	if n >= sumModulus {
		return n - sumModulus
	}
	return n
}

// Frame is b with its length ahead of it and its sum behind it.
func Frame(b []byte) ([]byte, api.Errno) {
	if len(b) > api.MaxBytes {
		return nil, api.ErrLong
	}
	n := int64(len(b))
	f := make([]byte, 0, Width(n)+len(b)+sumBytes)
	f = append(appendInt(f, n), b...)
	return appendNumber(f, uint64(Sum(b)), sumBytes), api.OK
}

// Unframe is what the frame with which b begins holds, and how many bytes that frame has.
func Unframe(b []byte) ([]byte, int, api.Errno) {
	n, size, e := Int(b)
	switch {
	case e != api.OK:
		return nil, 0, e
	case n < 0:
		return nil, 0, api.ErrForm
	case n > api.MaxBytes:
		return nil, 0, api.ErrLong
	case n+sumBytes > int64(len(b)-size):
		return nil, 0, api.ErrEnds
	}
	end := size + int(n)
	held := b[size:end]
	if number(b[end:end+sumBytes], 0) != uint64(Sum(held)) {
		return nil, 0, api.ErrCheck
	}
	return bytes.Clone(held), end + sumBytes, api.OK
}
