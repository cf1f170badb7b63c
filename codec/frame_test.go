package codec_test

import (
	"bytes"
	"hash/adler32"
	"math"
	"testing"

	"cresset/api"
	"cresset/codec"
)

// contents are lists of lengths at which the form of the length changes.
func contents() [][]byte {
	var l [][]byte
	for _, n := range []int{0, 1, 2, 99, 100, 101, 255, 256, 300, 5000} {
		b := make([]byte, n)
		for i := range b {
			b[i] = byte(i*i + n)
		}
		l = append(l, b, bytes.Repeat([]byte{255}, n))
	}
	return l
}

func TestSumExamples(t *testing.T) {
	for _, c := range []struct {
		l    [][]byte
		want uint32
	}{
		{nil, 1},
		{[][]byte{}, 1},
		{[][]byte{nil}, 1},
		{[][]byte{nil, {}, nil}, 1},
		{[][]byte{{0}}, 0x00010001},
		{[][]byte{{255}}, 0x01000100},
		{[][]byte{[]byte("123456789")}, 0x091e01de},
		{[][]byte{[]byte("1234"), nil, []byte("5"), []byte("6789"), {}}, 0x091e01de},
		{[][]byte{[]byte("a")}, 0x00620062},
	} {
		if got := codec.Sum(c.l...); got != c.want {
			t.Errorf("Sum(%v) = %08X, want %08X", c.l, got, c.want)
		}
	}
}

// P1.3: both sums stay below the modulus, however many bytes there are and however they are cut into lists.
func TestSumOfManyBytes(t *testing.T) {
	long := [][]byte{bytes.Repeat([]byte{255}, api.MaxBytes), bytes.Repeat([]byte{0}, 70000), bytes.Repeat([]byte{0, 255, 1, 128}, 50001)}
	for _, b := range append(contents(), long...) {
		want := adler32.Checksum(b)
		if got := codec.Sum(b); got != want {
			t.Errorf("Sum of %d bytes = %08X, want %08X", len(b), got, want)
		}
		half := len(b) / 2
		if got := codec.Sum(b[:half], b[half:]); got != want {
			t.Errorf("Sum of %d bytes in two lists = %08X, want %08X", len(b), got, want)
		}
	}
	// at 65,520 bytes of 1 the first sum comes to just the modulus
	for n := 65518; n <= 65523; n++ {
		b := bytes.Repeat([]byte{1}, n)
		if got, want := codec.Sum(b), adler32.Checksum(b); got != want {
			t.Errorf("Sum of %d ones = %08X, want %08X", n, got, want)
		}
	}
}

// P1.3: the length, the bytes, the sum with its highest byte first.
func TestFrame(t *testing.T) {
	for _, b := range [][]byte{nil, {}} {
		if f, e := codec.Frame(b); e != api.OK || !bytes.Equal(f, []byte{108, 0, 0, 0, 1}) {
			t.Errorf("Frame of nothing = %v, %d", f, e)
		}
	}
	if f, e := codec.Frame([]byte("123456789")); e != api.OK || string(f) != "\x75123456789\x09\x1e\x01\xde" {
		t.Errorf("Frame(123456789) = %v, %d", f, e)
	}
	for _, b := range contents() {
		sum := adler32.Checksum(b)
		want := append(refPutInt(int64(len(b))), b...)
		want = append(want, byte(sum>>24), byte(sum>>16), byte(sum>>8), byte(sum))
		if f, e := codec.Frame(b); e != api.OK || !bytes.Equal(f, want) {
			t.Errorf("Frame of %d bytes is another one, error %d", len(b), e)
		}
	}
}

func TestFrameAtTheLimit(t *testing.T) {
	b := bytes.Repeat([]byte{0, 255, 7}, api.MaxBytes/3+1)
	most, more := b[:api.MaxBytes], b[:api.MaxBytes+1]
	f, e := codec.Frame(most)
	if e != api.OK || len(f) != codec.Width(api.MaxBytes)+api.MaxBytes+4 {
		t.Fatalf("Frame of MaxBytes has %d bytes, error %d", len(f), e)
	}
	back, size, e := codec.Unframe(append(f, 1))
	if e != api.OK || size != len(f) || !bytes.Equal(back, most) {
		t.Errorf("Unframe of MaxBytes has %d bytes, size %d, error %d", len(back), size, e)
	}
	if f, e := codec.Frame(more); f != nil || e != api.ErrLong {
		t.Errorf("Frame of one more has %d bytes, error %d", len(f), e)
	}
}

// zeroFrame is a whole frame of n zero bytes, n being beyond the limit too, with the bits of turn turned in its sum.
func zeroFrame(n int, turn byte) []byte {
	b := make([]byte, n)
	sum := adler32.Checksum(b)
	f := append(refPutInt(int64(n)), b...)
	return append(f, byte(sum>>24), byte(sum>>16), byte(sum>>8), byte(sum)^turn)
}

// P1.3: each error that is named, and where several apply the one that is named first.
func TestUnframeErrors(t *testing.T) {
	long := zeroFrame(api.MaxBytes+1, 0)
	for _, c := range []struct {
		why  string
		b    []byte
		want api.Errno
	}{
		{"length -1, nothing behind it", []byte{107}, api.ErrForm},
		{"length -1, bytes behind it", []byte{107, 0, 0, 0, 1}, api.ErrForm},
		{"the least length", codec.PutInt(nil, math.MinInt64), api.ErrForm},
		{"length 100 in two", append([]byte{209, 100}, make([]byte, 104)...), api.ErrForm},
		{"MaxBytes and one, nothing behind it", codec.PutInt(nil, api.MaxBytes+1), api.ErrLong},
		{"MaxBytes and one, cut", long[:len(long)-1], api.ErrLong},
		{"MaxBytes and one, whole", long, api.ErrLong},
		{"MaxBytes and one, another sum", zeroFrame(api.MaxBytes+1, 1), api.ErrLong},
		{"the greatest length", codec.PutInt(nil, math.MaxInt64), api.ErrLong},
		{"MaxBytes, nothing behind it", codec.PutInt(nil, api.MaxBytes), api.ErrEnds},
		{"length 0, three behind it", []byte{108, 0, 0, 0}, api.ErrEnds},
		{"length 0, three others behind it", []byte{108, 9, 9, 9}, api.ErrEnds},
		{"length 2, five behind it", []byte{110, 1, 2, 3, 4, 5}, api.ErrEnds},
		{"length 0, another sum", []byte{108, 0, 0, 0, 2}, api.ErrCheck},
		{"length 0, a sum that is right modulo the modulus", []byte{108, 0, 0, 0xff, 0xf2}, api.ErrCheck},
		{"length 0, sum the lowest byte first", []byte{108, 1, 0, 0, 0}, api.ErrCheck},
		{"MaxBytes, another sum", zeroFrame(api.MaxBytes, 128), api.ErrCheck},
	} {
		if b, size, e := codec.Unframe(c.b); b != nil || size != 0 || e != c.want {
			t.Errorf("%s: Unframe = %d bytes, %d, %d, want error %d alone", c.why, len(b), size, e, c.want)
		}
	}
}

// P1.6: a frame and any bytes behind it.
func TestUnframeOfFrame(t *testing.T) {
	for _, b := range contents() {
		f, _ := codec.Frame(b)
		for _, tail := range [][]byte{nil, {0}, {217, 255}, f, bytes.Repeat([]byte{1}, 300)} {
			got, size, e := codec.Unframe(append(bytes.Clone(f), tail...))
			if e != api.OK || size != len(f) || !bytes.Equal(got, b) {
				t.Errorf("%d bytes framed, %d behind: %d bytes, size %d, error %d", len(b), len(tail), len(got), size, e)
			}
		}
	}
}

// P1.6: a beginning of a frame.
func TestUnframeOfBeginnings(t *testing.T) {
	for _, b := range contents() {
		f, _ := codec.Frame(b)
		for k := range f {
			if got, size, e := codec.Unframe(f[:k]); got != nil || size != 0 || e != api.ErrEnds {
				t.Fatalf("%d of %d bytes: %d bytes, size %d, error %d", k, len(f), len(got), size, e)
			}
		}
	}
}

// P1.6: one bit of a frame's bytes or its sum turned.
func TestUnframeOfTurnedBits(t *testing.T) {
	for _, b := range contents() {
		if len(b) > 1000 {
			continue
		}
		f, _ := codec.Frame(b)
		for i := codec.Width(int64(len(b))); i < len(f); i++ {
			for k := range 8 {
				f[i] ^= 1 << k
				if got, size, e := codec.Unframe(f); got != nil || size != 0 || e != api.ErrCheck {
					t.Fatalf("bit %d of byte %d of %d: %d bytes, size %d, error %d", k, i, len(f), len(got), size, e)
				}
				f[i] ^= 1 << k
			}
		}
	}
}

// P1.4: what Unframe reads is, framed again, just the bytes that it had.
func TestFrameOfUnframe(t *testing.T) {
	for _, b := range contents() {
		f, _ := codec.Frame(b)
		got, size, e := codec.Unframe(append(bytes.Clone(f), 5, 5))
		again, e2 := codec.Frame(got)
		if e != api.OK || e2 != api.OK || size != len(f) || !bytes.Equal(again, f) {
			t.Errorf("%d bytes: framed again otherwise, errors %d %d", len(b), e, e2)
		}
	}
}
