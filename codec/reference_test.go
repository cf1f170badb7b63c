package codec_test

import (
	"bytes"
	"math"
	"math/big"
	"math/rand/v2"
	"slices"

	"cresset/api"
)

// The document's words on ints, written down a second time over big numbers, so that what the package does can be held against them.

func refPutInt(n int64) []byte {
	switch {
	case n > 100:
		m := big.NewInt(n).Bytes()
		return append([]byte{byte(208 + len(m))}, m...)
	case n < -100:
		m := new(big.Int).Sub(big.NewInt(-1), big.NewInt(n)).Bytes()
		out := []byte{byte(8 - len(m))}
		for _, x := range m {
			out = append(out, 255-x)
		}
		return out
	}
	return []byte{byte(n + 108)}
}

func refInt(b []byte) (int64, int, api.Errno) {
	if len(b) == 0 {
		return 0, 0, api.ErrEnds
	}
	first := int(b[0])
	if first > 216 {
		return 0, 0, api.ErrForm
	}
	if 8 <= first && first <= 208 {
		return int64(first - 108), 1, api.OK
	}
	follow := first - 208
	if first < 8 {
		follow = 8 - first
	}
	if len(b)-1 < follow {
		return 0, 0, api.ErrEnds
	}
	tail := slices.Clone(b[1 : 1+follow])
	for i, x := range tail {
		if first < 8 {
			tail[i] = 255 - x
		}
	}
	n := new(big.Int).SetBytes(tail)
	if first < 8 {
		n.Sub(big.NewInt(-1), n)
	}
	short := n.CmpAbs(big.NewInt(100)) <= 0
	if tail[0] == 0 || short || !n.IsInt64() {
		return 0, 0, api.ErrForm
	}
	return n.Int64(), 1 + follow, api.OK
}

// edgeInts are, in order, the ints at which a form begins or ends, with their neighbours.
func edgeInts() []int64 {
	l := []int64{math.MinInt64, math.MinInt64 + 1, math.MaxInt64 - 1, math.MaxInt64}
	for k := 1; k <= 7; k++ {
		past := int64(1) << (8 * k) // the least number that k bytes can't hold
		l = append(l, past-2, past-1, past, past+1, -past-2, -past-1, -past, -past+1)
	}
	for n := int64(-130); n <= 130; n++ {
		l = append(l, n)
	}
	slices.Sort(l)
	return slices.Compact(l)
}

// someInts are edgeInts and ints of all widths, the same at each run.
func someInts() []int64 {
	l := edgeInts()
	r := rand.New(rand.NewPCG(1, 2))
	for range 500 {
		l = append(l, int64(r.Uint64())>>r.IntN(64))
	}
	slices.Sort(l)
	return slices.Compact(l)
}

// someBytes are lists of 0 to 11 bytes, the same at each run, many of which begin as long ints do.
func someBytes(many int) [][]byte {
	r := rand.New(rand.NewPCG(3, 4))
	firsts := []byte{0, 1, 2, 3, 4, 5, 6, 7, 8, 107, 108, 109, 110, 208, 209, 210, 211, 212, 213, 214, 215, 216, 217}
	fills := []byte{0, 1, 99, 100, 101, 127, 128, 154, 155, 156, 254, 255}
	l := make([][]byte, many)
	for i := range l {
		b := make([]byte, r.IntN(12))
		for j := range b {
			b[j] = byte(r.Uint32())
			if r.IntN(2) == 0 {
				b[j] = fills[r.IntN(len(fills))]
			}
		}
		if len(b) > 0 && r.IntN(4) > 0 {
			b[0] = firsts[r.IntN(len(firsts))]
		}
		l[i] = b
	}
	return l
}

// roomy is b with room behind it that holds a pattern, and a call that says whether b or the room was written to.
func roomy(b []byte) ([]byte, func() bool) {
	whole := append(bytes.Clone(b), bytes.Repeat([]byte{0xA5}, 32)...)
	before := bytes.Clone(whole)
	return whole[:len(b)], func() bool { return !bytes.Equal(whole, before) }
}
