package codec_test

import (
	"bytes"
	"iter"
	"slices"
	"strings"
	"testing"

	"cresset/api"
	"cresset/codec"
)

// The calls that the chapter lists keep their signatures.
var (
	_ func([]byte, int64) []byte            = codec.PutInt
	_ func([]byte) (int64, int, api.Errno)  = codec.Int
	_ func([]byte, string) []byte           = codec.PutText
	_ func([]byte) (string, int, api.Errno) = codec.Text
	_ func([]byte, bool) []byte             = codec.PutFlag
	_ func([]byte) (bool, int, api.Errno)   = codec.Flag
	_ func(int64) int                       = codec.Width
	_ func([]byte) iter.Seq2[int, int64]    = codec.Ints
	_ func(...[]byte) uint32                = codec.Sum
	_ func([]byte) ([]byte, api.Errno)      = codec.Frame
	_ func([]byte) ([]byte, int, api.Errno) = codec.Unframe
)

func TestErrorsHaveTheirNumbers(t *testing.T) {
	got := []api.Errno{api.OK, api.ErrLong, api.ErrEnds, api.ErrForm, api.ErrCheck, api.ErrMore}
	if want := []api.Errno{0, 3, 10, 11, 12, 13}; !slices.Equal(got, want) {
		t.Errorf("errors' numbers are %v, want %v", got, want)
	}
}

// R1 and R2: no call panics at any bytes, and beside an error stands nothing.
func TestAnyBytes(t *testing.T) {
	for _, b := range append(someBytes(50000), nil, []byte{}) {
		if n, size, e := codec.Int(b); e != api.OK && (n != 0 || size != 0) {
			t.Fatalf("Int(%v) = %d, %d beside %d", b, n, size, e)
		}
		if s, size, e := codec.Text(b); e != api.OK && (s != "" || size != 0) {
			t.Fatalf("Text(%v) = %q, %d beside %d", b, s, size, e)
		}
		if yes, size, e := codec.Flag(b); e != api.OK && (yes || size != 0) {
			t.Fatalf("Flag(%v) = %v, %d beside %d", b, yes, size, e)
		}
		if f, size, e := codec.Unframe(b); e != api.OK && (f != nil || size != 0) {
			t.Fatalf("Unframe(%v) = %v, %d beside %d", b, f, size, e)
		}
		allInts(b)
		codec.Sum(b, b)
		if f, e := codec.Frame(b); e != api.OK || len(f) == 0 {
			t.Fatalf("Frame(%v) = %v, %d", b, f, e)
		}
	}
}

// R3: a list that is handed in is not written to, nor what stands behind its end.
func TestHandedInIsLeft(t *testing.T) {
	text := strings.Repeat("t", 12)
	for _, head := range [][]byte{{}, {1, 2, 3}, {110, 97, 98}, {108, 0, 0, 0, 1}, {209, 101, 108}} {
		b, written := roomy(head)
		for _, n := range []int64{0, 101, -300, 1 << 40} {
			codec.PutInt(b, n)
		}
		codec.PutText(b, text)
		codec.PutFlag(b, true)
		codec.Int(b)
		codec.Text(b)
		codec.Flag(b)
		allInts(b)
		codec.Sum(b, b)
		codec.Frame(b)
		codec.Unframe(b)
		if written() {
			t.Errorf("%v was written to", head)
		}
	}
}

// R3: two answers made of one list, and the list itself, share nothing.
func TestPutAnswersAreNobodysElse(t *testing.T) {
	puts := map[string]func([]byte) []byte{
		"PutInt":  func(b []byte) []byte { return codec.PutInt(b, 5) },
		"long":    func(b []byte) []byte { return codec.PutInt(b, -1<<50) },
		"PutText": func(b []byte) []byte { return codec.PutText(b, "text") },
		"PutFlag": func(b []byte) []byte { return codec.PutFlag(b, false) },
		"Frame":   func(b []byte) []byte { f, _ := codec.Frame(b); return f },
	}
	for name, put := range puts {
		b, written := roomy([]byte{1, 2, 3})
		one, two := put(b), put(b)
		want := bytes.Clone(one)
		for i := range two[:cap(two)] {
			two[:cap(two)][i] ^= 255
		}
		if !bytes.Equal(one, want) || written() {
			t.Errorf("%s: what is answered is another's too", name)
		}
	}
}

// R3: what was read stays as it was when the list changes, and the list when what was read does.
func TestReadAnswersAreNobodysElse(t *testing.T) {
	f, _ := codec.Frame([]byte("hello"))
	got, _, _ := codec.Unframe(f)
	again, _, _ := codec.Unframe(f)
	clear(f)
	if string(got) != "hello" {
		t.Errorf("Unframe's answer became %q", got)
	}
	clear(got[:cap(got)])
	if string(again) != "hello" {
		t.Errorf("another answer of Unframe became %q", again)
	}
	b := codec.PutText(nil, "hello")
	s, _, _ := codec.Text(b)
	clear(b)
	if s != "hello" {
		t.Errorf("Text's answer became %q", s)
	}
}

// R3: an iterator tells what was there when it was asked for, whatever its owner writes since.
func TestIntsTellsWhatWasThere(t *testing.T) {
	b := codec.PutInt(codec.PutInt(codec.PutInt(nil, 1), 300), 2)
	want := allInts(b)
	seq := codec.Ints(b)
	var got []placed
	for at, n := range seq {
		got = append(got, placed{at, n})
		clear(b)
	}
	if !slices.Equal(got, want) {
		t.Errorf("written to on the way: %v, want %v", got, want)
	}
	got = nil
	for at, n := range seq {
		got = append(got, placed{at, n})
	}
	if !slices.Equal(got, want) {
		t.Errorf("written to ahead: %v, want %v", got, want)
	}
}

// R4: empty and nil lists are the same.
func TestEmptyAndNil(t *testing.T) {
	none, empty := []byte(nil), []byte{}
	if !bytes.Equal(codec.PutInt(none, 7), codec.PutInt(empty, 7)) ||
		!bytes.Equal(codec.PutText(none, "x"), codec.PutText(empty, "x")) ||
		!bytes.Equal(codec.PutFlag(none, true), codec.PutFlag(empty, true)) {
		t.Error("what is put behind nothing differs")
	}
	if codec.Sum() != codec.Sum(none) || codec.Sum(none) != codec.Sum(empty, none, empty) {
		t.Error("sums of nothing differ")
	}
	f, _ := codec.Frame(none)
	g, _ := codec.Frame(empty)
	if !bytes.Equal(f, g) {
		t.Error("frames of nothing differ")
	}
	if b, size, e := codec.Unframe(f); len(b) != 0 || size != 5 || e != api.OK {
		t.Errorf("a frame of nothing holds %v, %d, %d", b, size, e)
	}
}

// R6: the same calls answer the same.
func TestSameAgain(t *testing.T) {
	for _, b := range someBytes(1000) {
		n, size, e := codec.Int(b)
		m, other, g := codec.Int(b)
		if n != m || size != other || e != g || codec.Sum(b) != codec.Sum(b) || !slices.Equal(allInts(b), allInts(b)) {
			t.Fatalf("%v is answered otherwise the second time", b)
		}
	}
}
