package codec_test

import (
	"bytes"
	"math"
	"slices"
	"strings"
	"testing"

	"cresset/api"
	"cresset/codec"
)

// P1.1: the bytes that the document names.
func TestPutIntExamples(t *testing.T) {
	for _, c := range []struct {
		n    int64
		want []byte
	}{
		{0, []byte{108}},
		{-1, []byte{107}},
		{1, []byte{109}},
		{100, []byte{208}},
		{-100, []byte{8}},
		{101, []byte{209, 101}},
		{255, []byte{209, 255}},
		{256, []byte{210, 1, 0}},
		{300, []byte{210, 1, 44}},
		{-101, []byte{7, 155}},
		{-256, []byte{7, 0}},
		{-257, []byte{6, 254, 255}},
		{-300, []byte{6, 254, 212}},
		{math.MaxInt64, []byte{216, 127, 255, 255, 255, 255, 255, 255, 255}},
		{math.MinInt64, []byte{0, 128, 0, 0, 0, 0, 0, 0, 0}},
	} {
		if got := codec.PutInt(nil, c.n); !bytes.Equal(got, c.want) {
			t.Errorf("PutInt(nil, %d) = %v, want %v", c.n, got, c.want)
		}
	}
}

// P1.1: each length, both signs.
func TestPutIntAndWidthAtAllLengths(t *testing.T) {
	seen := map[int]int{}
	for _, n := range someInts() {
		want := refPutInt(n)
		if got := codec.PutInt(nil, n); !bytes.Equal(got, want) {
			t.Errorf("PutInt(nil, %d) = %v, want %v", n, got, want)
		}
		if got := codec.Width(n); got != len(want) {
			t.Errorf("Width(%d) = %d, want %d", n, got, len(want))
		}
		if n < 0 {
			seen[-len(want)]++
		} else {
			seen[len(want)]++
		}
	}
	for w := 1; w <= 9; w++ {
		if seen[w] == 0 || seen[-w] == 0 {
			t.Errorf("no int of %d bytes was tried on both sides of zero", w)
		}
	}
}

func TestPutIntGoesBehind(t *testing.T) {
	for _, n := range edgeInts() {
		head := []byte{217, 0, 255}
		want := append(bytes.Clone(head), refPutInt(n)...)
		if got := codec.PutInt(head, n); !bytes.Equal(got, want) {
			t.Errorf("PutInt(%v, %d) = %v, want %v", head, n, got, want)
		}
	}
}

// P1.1: texts of lengths at which the form of the length changes, and above MaxBytes, as no limit is named.
func TestPutText(t *testing.T) {
	if got := codec.PutText(nil, "a"); !bytes.Equal(got, []byte{109, 97}) {
		t.Errorf("the text a: %v", got)
	}
	if got := codec.PutText(nil, ""); !bytes.Equal(got, []byte{108}) {
		t.Errorf("the empty text: %v", got)
	}
	for _, n := range []int{0, 1, 99, 100, 101, 255, 256, 65535, 65536, api.MaxBytes, api.MaxBytes + 1} {
		s := strings.Repeat("\x00\xff\xfez", n/4+1)[:n]
		want := append(append([]byte{7}, refPutInt(int64(n))...), s...)
		if got := codec.PutText([]byte{7}, s); !bytes.Equal(got, want) {
			t.Errorf("a text of %d bytes is put otherwise", n)
		}
		back, size, e := codec.Text(append(want[1:], 1, 2))
		if back != s || size != len(want)-1 || e != api.OK {
			t.Errorf("a text of %d bytes is read as one of %d, size %d, error %d", n, len(back), size, e)
		}
	}
}

func TestPutFlag(t *testing.T) {
	if got := codec.PutFlag([]byte{3}, true); !bytes.Equal(got, []byte{3, 109}) {
		t.Errorf("true: %v", got)
	}
	if got := codec.PutFlag([]byte{3}, false); !bytes.Equal(got, []byte{3, 108}) {
		t.Errorf("false: %v", got)
	}
	if got := codec.PutFlag(nil, true); !bytes.Equal(got, []byte{109}) {
		t.Errorf("true behind nothing: %v", got)
	}
}

// P1.2: each error that is named, and where several apply the one that is named first.
func TestIntErrors(t *testing.T) {
	for _, c := range []struct {
		why  string
		b    []byte
		want api.Errno
	}{
		{"nil", nil, api.ErrEnds},
		{"empty", []byte{}, api.ErrEnds},
		{"a first byte above 216", []byte{217}, api.ErrForm},
		{"a first byte above 216, nothing behind it", []byte{255}, api.ErrForm},
		{"a first byte above 216, many behind it", []byte{217, 1, 2, 3, 4, 5, 6, 7, 8, 9}, api.ErrForm},
		{"209 alone", []byte{209}, api.ErrEnds},
		{"7 alone", []byte{7}, api.ErrEnds},
		{"216 with seven", []byte{216, 127, 1, 1, 1, 1, 1, 1}, api.ErrEnds},
		{"0 with seven", []byte{0, 128, 1, 1, 1, 1, 1, 1}, api.ErrEnds},
		{"ends, and would not be the fewest", []byte{210, 0}, api.ErrEnds},
		{"ends, and would be no int64", []byte{216, 255}, api.ErrEnds},
		{"below, ends, and would not be the fewest", []byte{6, 255}, api.ErrEnds},
		{"100 in two", []byte{209, 100}, api.ErrForm},
		{"0 in two", []byte{209, 0}, api.ErrForm},
		{"-100 in two", []byte{7, 156}, api.ErrForm},
		{"-1 in two", []byte{7, 255}, api.ErrForm},
		{"200 in three", []byte{210, 0, 200}, api.ErrForm},
		{"-201 in three", []byte{6, 255, 55}, api.ErrForm},
		{"1 in nine", []byte{216, 0, 0, 0, 0, 0, 0, 0, 1}, api.ErrForm},
		{"2^55 in nine", []byte{216, 0, 128, 0, 0, 0, 0, 0, 0}, api.ErrForm},
		{"-1 in nine", []byte{0, 255, 255, 255, 255, 255, 255, 255, 255}, api.ErrForm},
		{"2^63", []byte{216, 128, 0, 0, 0, 0, 0, 0, 0}, api.ErrForm},
		{"2^64 - 1", []byte{216, 255, 255, 255, 255, 255, 255, 255, 255}, api.ErrForm},
		{"-2^63 - 1", []byte{0, 127, 255, 255, 255, 255, 255, 255, 255}, api.ErrForm},
		{"-2^64", []byte{0, 0, 0, 0, 0, 0, 0, 0, 0}, api.ErrForm},
	} {
		n, size, e := codec.Int(c.b)
		if n != 0 || size != 0 || e != c.want {
			t.Errorf("%s: Int(%v) = %d, %d, %d, want error %d alone", c.why, c.b, n, size, e, c.want)
		}
		s, size, e := codec.Text(c.b)
		if s != "" || size != 0 || e != c.want {
			t.Errorf("%s: Text(%v) = %q, %d, %d, want error %d alone", c.why, c.b, s, size, e, c.want)
		}
		yes, size, e := codec.Flag(c.b)
		if yes || size != 0 || e != c.want {
			t.Errorf("%s: Flag(%v) = %v, %d, %d, want error %d alone", c.why, c.b, yes, size, e, c.want)
		}
		f, size, e := codec.Unframe(c.b)
		if f != nil || size != 0 || e != c.want {
			t.Errorf("%s: Unframe(%v) = %v, %d, %d, want error %d alone", c.why, c.b, f, size, e, c.want)
		}
	}
}

func checkInt(t *testing.T, b []byte) {
	t.Helper()
	n, size, e := codec.Int(b)
	wantN, wantSize, wantE := refInt(b)
	if n != wantN || size != wantSize || e != wantE {
		t.Fatalf("Int(%v) = %d, %d, %d, want %d, %d, %d", b, n, size, e, wantN, wantSize, wantE)
	}
}

// P1.2: all lists of up to two bytes, all of three whose first byte says two more, many longer ones.
func TestIntOfAnyBytes(t *testing.T) {
	for x := range 256 {
		checkInt(t, []byte{byte(x)})
		for y := range 256 {
			checkInt(t, []byte{byte(x), byte(y)})
			checkInt(t, []byte{210, byte(x), byte(y)})
			checkInt(t, []byte{6, byte(x), byte(y)})
		}
	}
	for _, b := range someBytes(50000) {
		checkInt(t, b)
	}
}

// P1.2: fewer bytes than the first one says, at each length.
func TestIntOfBeginnings(t *testing.T) {
	for _, n := range someInts() {
		b := codec.PutInt(nil, n)
		for k := range b {
			if m, size, e := codec.Int(b[:k]); m != 0 || size != 0 || e != api.ErrEnds {
				t.Errorf("Int of %d of the %d bytes of %d = %d, %d, %d", k, len(b), n, m, size, e)
			}
		}
	}
}

func TestTextErrors(t *testing.T) {
	huge := codec.PutInt(nil, math.MaxInt64)
	for _, c := range []struct {
		why  string
		b    []byte
		want api.Errno
	}{
		{"length -1", []byte{107}, api.ErrForm},
		{"length -1, bytes behind it", []byte{107, 97, 97}, api.ErrForm},
		{"length -100", []byte{8, 97}, api.ErrForm},
		{"the least length", append(codec.PutInt(nil, math.MinInt64), 97), api.ErrForm},
		{"length 1, nothing left", []byte{109}, api.ErrEnds},
		{"length 3, two left", []byte{111, 97, 98}, api.ErrEnds},
		{"length 101, 100 left", append([]byte{209, 101}, make([]byte, 100)...), api.ErrEnds},
		{"the greatest length, nothing left", huge, api.ErrEnds},
		{"the greatest length, some left", append(bytes.Clone(huge), 1, 2, 3), api.ErrEnds},
	} {
		if s, size, e := codec.Text(c.b); s != "" || size != 0 || e != c.want {
			t.Errorf("%s: Text = %q, %d, %d, want error %d alone", c.why, s, size, e, c.want)
		}
	}
}

func TestFlag(t *testing.T) {
	for _, n := range someInts() {
		b := append(codec.PutInt(nil, n), 9, 9)
		yes, size, e := codec.Flag(b)
		switch {
		case n == 0 || n == 1:
			if yes != (n == 1) || size != 1 || e != api.OK {
				t.Errorf("Flag of the int %d = %v, %d, %d", n, yes, size, e)
			}
		case yes || size != 0 || e != api.ErrForm:
			t.Errorf("Flag of the int %d = %v, %d, %d, want ErrForm alone", n, yes, size, e)
		}
	}
}

type placed struct {
	at int
	n  int64
}

func allInts(b []byte) []placed {
	var l []placed
	for at, n := range codec.Ints(b) {
		l = append(l, placed{at, n})
	}
	return l
}

// P1.2: each int with its place, up to an end, a form that is none, an int that is cut.
func TestInts(t *testing.T) {
	var row []byte
	var want []placed
	for _, n := range someInts() {
		want = append(want, placed{len(row), n})
		row = codec.PutInt(row, n)
	}
	for _, tail := range [][]byte{nil, {217}, {255, 108}, {209}, {209, 100, 108}, {0, 1}, {216, 128, 0, 0, 0, 0, 0, 0, 0, 108}} {
		if got := allInts(append(bytes.Clone(row), tail...)); !slices.Equal(got, want) {
			t.Errorf("%d ints, want %d, with %v behind them", len(got), len(want), tail)
		}
	}
	for _, b := range [][]byte{nil, {}, {217}, {209}, {209, 100}} {
		if got := allInts(b); len(got) != 0 {
			t.Errorf("Ints(%v) tells %v", b, got)
		}
	}
	if got := allInts([]byte{209, 101, 108, 7, 155, 217, 108}); !slices.Equal(got, []placed{{0, 101}, {2, 0}, {3, -101}}) {
		t.Errorf("places: %v", got)
	}
}

// P1.2 and R3: an iterator may be stopped at any point, be done again, and be done inside itself.
func TestIntsStopsAndGoesAgain(t *testing.T) {
	var row []byte
	for n := range int64(5) {
		row = codec.PutInt(row, 300*n)
	}
	seq := codec.Ints(row)
	for stop := 1; stop <= 5; stop++ {
		var got []int64
		for _, n := range seq {
			if got = append(got, n); len(got) == stop {
				break
			}
		}
		if !slices.Equal(got, []int64{0, 300, 600, 900, 1200}[:stop]) {
			t.Errorf("stopped at %d: %v", stop, got)
		}
	}
	pairs := 0
	for range seq {
		for range seq {
			pairs++
		}
	}
	if pairs != 25 {
		t.Errorf("one run inside another tells %d pairs", pairs)
	}
}

// P1.4: what is put is read.
func TestThereAndBack(t *testing.T) {
	for _, n := range someInts() {
		b := codec.PutInt(nil, n)
		if m, size, e := codec.Int(append(b, 216, 0)); m != n || size != len(b) || e != api.OK {
			t.Errorf("the int %d is read as %d, %d, %d", n, m, size, e)
		}
	}
	for _, yes := range []bool{false, true} {
		if got, size, e := codec.Flag(codec.PutFlag(nil, yes)); got != yes || size != 1 || e != api.OK {
			t.Errorf("the flag %v is read as %v, %d, %d", yes, got, size, e)
		}
	}
	b := codec.PutText(codec.PutFlag(codec.PutInt(nil, -7000), true), "x\x00y")
	n, one, e1 := codec.Int(b)
	yes, two, e2 := codec.Flag(b[one:])
	s, three, e3 := codec.Text(b[one+two:])
	if n != -7000 || !yes || s != "x\x00y" || one+two+three != len(b) || e1 != api.OK || e2 != api.OK || e3 != api.OK {
		t.Errorf("a row is read as %d %v %q, errors %d %d %d", n, yes, s, e1, e2, e3)
	}
}

// P1.4: what is read of any bytes is, put again, just the bytes that it had.
func TestBackAndThere(t *testing.T) {
	reads := 0
	for _, b := range someBytes(50000) {
		if n, size, e := codec.Int(b); e == api.OK {
			reads++
			if got := codec.PutInt(nil, n); !bytes.Equal(got, b[:size]) {
				t.Fatalf("Int(%v) is put again as %v", b, got)
			}
		}
		if s, size, e := codec.Text(b); e == api.OK {
			reads++
			if got := codec.PutText(nil, s); !bytes.Equal(got, b[:size]) {
				t.Fatalf("Text(%v) is put again as %v", b, got)
			}
		}
		if yes, size, e := codec.Flag(b); e == api.OK {
			reads++
			if got := codec.PutFlag(nil, yes); !bytes.Equal(got, b[:size]) {
				t.Fatalf("Flag(%v) is put again as %v", b, got)
			}
		}
	}
	if reads < 10000 {
		t.Errorf("only %d lists could be read: the test says too little", reads)
	}
}

// P1.5: the bytes have the order of the ints.
func TestOrderOfInts(t *testing.T) {
	l := someInts()
	put := make([][]byte, len(l))
	for i, n := range l {
		put[i] = codec.PutInt(nil, n)
	}
	for i := range l {
		for j := range l {
			want := 0
			if i < j {
				want = -1
			} else if i > j {
				want = 1
			}
			if got := bytes.Compare(put[i], put[j]); got != want {
				t.Fatalf("%d against %d: bytes say %d", l[i], l[j], got)
			}
		}
	}
}

// P1.5: so have the bytes of rows of as many ints.
func TestOrderOfRows(t *testing.T) {
	few := []int64{math.MinInt64, -257, -256, -101, -100, 0, 100, 101, 255, 256, math.MaxInt64}
	var rows [][]int64
	for _, x := range few {
		for _, y := range few {
			for _, z := range []int64{-300, 0, 300} {
				rows = append(rows, []int64{x, y, z})
			}
		}
	}
	put := func(row []int64) []byte {
		var b []byte
		for _, n := range row {
			b = codec.PutInt(b, n)
		}
		return b
	}
	for _, r := range rows {
		for _, s := range rows {
			if got, want := bytes.Compare(put(r), put(s)), slices.Compare(r, s); got != want {
				t.Fatalf("%v against %v: bytes say %d, want %d", r, s, got, want)
			}
		}
	}
}
