package cells_test

import (
	"math"
	"testing"

	"cresset/api"
	"cresset/cells"
)

func newBox[T any](t *testing.T, room int) *cells.Box[T] {
	t.Helper()
	b, e := cells.NewBox[T](room)
	if e != api.OK || b == nil {
		t.Fatalf("NewBox(%d) = %v, %d", room, b, e)
	}
	return b
}

// filled is a box with some values in it.
func filled[T any](t *testing.T, room int, list ...T) *cells.Box[T] {
	t.Helper()
	b := newBox[T](t, room)
	for _, x := range list {
		wantPut(t, b, x, api.OK)
	}
	return b
}

func wantPut[T any](t *testing.T, b *cells.Box[T], x T, wanted api.Errno) {
	t.Helper()
	if e := b.Put(x); e != wanted {
		t.Fatalf("Put(%v) = %d, want %d", x, e, wanted)
	}
}

func wantTake[T comparable](t *testing.T, b *cells.Box[T], wanted T) {
	t.Helper()
	if x, e := b.Take(); x != wanted || e != api.OK {
		t.Fatalf("Take() = %v, %d, want %v", x, e, wanted)
	}
}

// wantNoTake asks of a box in which none waits, or that no call made.
func wantNoTake[T comparable](t *testing.T, b *cells.Box[T], wanted api.Errno) {
	t.Helper()
	var zero T
	if x, e := b.Take(); x != zero || e != wanted {
		t.Fatalf("Take() = %v, %d, want %d", x, e, wanted)
	}
}

func wantCounts[T any](t *testing.T, b *cells.Box[T], wait, room int) {
	t.Helper()
	if b.Len() != wait || b.Room() != room {
		t.Fatalf("Len %d, Room %d, want %d, %d", b.Len(), b.Room(), wait, room)
	}
}

// wantAll takes all that wait.
func wantAll[T comparable](t *testing.T, b *cells.Box[T], list ...T) {
	t.Helper()
	room := b.Room()
	for i, x := range list {
		wantCounts(t, b, len(list)-i, room)
		wantTake(t, b, x)
	}
	wantCounts(t, b, 0, room)
	wantNoTake(t, b, api.ErrNone)
	wantCounts(t, b, 0, room)
}

// The chapter's example 1, its second half.
func TestExampleOfABox(t *testing.T) {
	b := newBox[string](t, 1)
	wantPut(t, b, "a", api.OK)
	wantPut(t, b, "b", api.ErrFull)
	wantTake(t, b, "a")
	wantNoTake(t, b, api.ErrNone)
}

// P8.2: a new box is empty, and has its room; a room that may not be is refused.
func TestNewBox(t *testing.T) {
	for _, room := range []int{1, 2, 100, api.MaxRoom - 1, api.MaxRoom} {
		b := newBox[string](t, room)
		wantCounts(t, b, 0, room)
		wantNoTake(t, b, api.ErrNone)
	}
	for _, room := range []int{0, -1, -api.MaxRoom, api.MaxRoom + 1, 1 << 16, 1 << 32, math.MaxInt, math.MinInt} {
		if b, e := cells.NewBox[string](room); b != nil || e != api.ErrArg {
			t.Errorf("NewBox(%d) = %v, %d", room, b, e)
		}
	}
}

// P8.2: just Room() may wait, in small boxes and the greatest; one that is refused changes nothing, and where one was taken there is room again.
func TestPutUpToTheRoom(t *testing.T) {
	for _, room := range []int{1, 2, 3, 10, api.MaxRoom} {
		b := newBox[int](t, room)
		for i := range room {
			wantCounts(t, b, i, room)
			wantPut(t, b, i, api.OK)
		}
		for range 3 {
			wantPut(t, b, -1, api.ErrFull)
			wantCounts(t, b, room, room)
		}
		wantTake(t, b, 0)
		wantPut(t, b, room, api.OK)
		wantPut(t, b, -1, api.ErrFull)
		for i := range room {
			wantTake(t, b, i+1)
			wantCounts(t, b, room-i-1, room)
		}
		wantNoTake(t, b, api.ErrNone)
	}
}

// P8.2: what has waited longest is taken; to take from an empty box changes nothing.
func TestTakeInOrder(t *testing.T) {
	b := filled(t, 3, "c", "a")
	wantTake(t, b, "c")
	wantPut(t, b, "b", api.OK)
	wantPut(t, b, "a", api.OK)
	wantAll(t, b, "a", "b", "a")
	for range 3 {
		wantNoTake(t, b, api.ErrNone)
	}
	wantPut(t, b, "d", api.OK)
	wantAll(t, b, "d")
}

// P8.2: zero values wait as others do.
func TestZeroValuesWait(t *testing.T) {
	b := filled(t, 3, "", "a", "")
	wantPut(t, b, "", api.ErrFull)
	wantAll(t, b, "", "a", "")
	p := filled[*int](t, 2, nil, nil)
	wantAll(t, p, nil, nil)
	s := filled(t, 2, struct{}{}, struct{}{})
	wantPut(t, s, struct{}{}, api.ErrFull)
	wantAll(t, s, struct{}{}, struct{}{})
	a := filled[any](t, 2, nil, 0)
	wantAll(t, a, nil, 0)
}

// P8.2: a clone has the same values in the same order and the same room, from empty boxes to full ones, and this one keeps its own.
func TestCloneOfABox(t *testing.T) {
	list := []int{5, 3, 9, 3}
	for n := range len(list) + 1 {
		for taken := range n + 1 {
			b := filled(t, 4, list[:n]...)
			for i := range taken {
				wantTake(t, b, list[i])
			}
			c, d := b.Clone(), b.Clone()
			wantCounts(t, b, n-taken, 4)
			wantAll(t, c, list[taken:n]...)
			wantAll(t, b, list[taken:n]...)
			wantAll(t, d.Clone(), list[taken:n]...)
			wantAll(t, d, list[taken:n]...)
		}
	}
}

// P8.2: what is done to one of the two is not seen at the other one.
func TestClonesGoTheirOwnWay(t *testing.T) {
	for _, turn := range []bool{false, true} {
		b := filled(t, 3, "a", "b")
		c := b.Clone()
		if turn {
			b, c = c, b
		}
		wantPut(t, b, "x", api.OK)
		wantPut(t, b, "y", api.ErrFull)
		wantCounts(t, c, 2, 3)
		wantTake(t, b, "a")
		wantTake(t, b, "b")
		wantCounts(t, c, 2, 3)
		wantPut(t, c, "z", api.OK)
		wantPut(t, c, "z", api.ErrFull)
		wantAll(t, b, "x")
		wantAll(t, c, "a", "b", "z")
	}
}

// P8.2, R5: a box that no call made answers ErrMade, 0, nil; a Put does not make it one.
func TestABoxThatNoCallMade(t *testing.T) {
	for _, b := range []*cells.Box[string]{nil, {}} {
		for range 2 {
			wantPut(t, b, "a", api.ErrMade)
			wantNoTake(t, b, api.ErrMade)
			wantCounts(t, b, 0, 0)
			if b.Clone() != nil {
				t.Error("Clone is not nil")
			}
		}
	}
}

// P8.4: what is put is taken once, in the order in which it was put, over many rounds through a small box.
func TestTakenOnceInOrder(t *testing.T) {
	for room := 1; room <= 7; room++ {
		b := newBox[int](t, room)
		put, taken := 0, 0
		for i := range 500 {
			for range 1 + i%room {
				if b.Put(put) == api.OK {
					put++
				}
			}
			for range 1 + (i*i)%(room+1) {
				if x, e := b.Take(); e == api.OK {
					if x != taken {
						t.Fatalf("%d was taken, want %d", x, taken)
					}
					taken++
				}
			}
			wantCounts(t, b, put-taken, room)
		}
		for ; taken < put; taken++ {
			wantTake(t, b, taken)
		}
		wantNoTake(t, b, api.ErrNone)
	}
}
