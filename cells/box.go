package cells

import "cresset/api"

// Box is values that wait, the first one ahead.
type Box[T any] struct {
	// By pointers, since a channel takes no value of 64 KiB or more, and has memory for all its room from its beginning on. What they point to is never written to, so that clones may share it.
	wait chan *T
}

// NewBox is a box with room for so many.
func NewBox[T any](room int) (*Box[T], api.Errno) {
	if room < 1 || room > api.MaxRoom {
		return nil, api.ErrArg
	}
	return &Box[T]{wait: make(chan *T, room)}, api.OK
}

// Put puts a value behind the others.
func (b *Box[T]) Put(x T) api.Errno {
	if !b.made() {
		return api.ErrMade
	}
	return b.push(&x)
}

// Take takes the first one.
func (b *Box[T]) Take() (x T, e api.Errno) {
	if !b.made() {
		return x, api.ErrMade
	}
	first, e := b.pull()
	if e != api.OK {
		return x, e
	}
	return *first, api.OK
}

// Len is how many wait; Room how many may.
func (b *Box[T]) Len() int {
	if !b.made() {
		return 0
	}
	return len(b.wait)
}

func (b *Box[T]) Room() int {
	if !b.made() {
		return 0
	}
	return cap(b.wait)
}

// Clone is a box like it.
func (b *Box[T]) Clone() *Box[T] {
	if !b.made() {
		return nil
	}
	like := &Box[T]{wait: make(chan *T, b.Room())}
	for range b.Len() { // a channel tells only what is taken: each one goes round to the end, and all stand as they stood
		x, _ := b.pull()
		b.push(x)
		like.push(x)
	}
	return like
}

func (b *Box[T]) made() bool { return b != nil && b.wait != nil }

// push puts a value behind the others, if there is room at once.
func (b *Box[T]) push(x *T) api.Errno {
	select {
	case b.wait <- x:
		return api.OK
	default:
		return api.ErrFull
	}
}

// pull takes the first one, if there is one at once.
func (b *Box[T]) pull() (*T, api.Errno) {
	select {
	case x := <-b.wait:
		return x, api.OK
	default:
		return nil, api.ErrNone
	}
}
