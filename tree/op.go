package tree

import (
	"slices"

	"cresset/api"
)

// place is where an operation stands: what it does with its next step.
type place int

const (
	atPin place = iota
	atRead
	atSwap
	atTidy
	atPack
	atHalf
	atLink
	atLag
	atPost
	atHang
	atNear
	atOut
	atEnd // it has finished
)

// late is a page of which the inner page above it may not know yet: on which way that is, and the key and the page that it is to have.
type late struct {
	way  []int
	key  string
	page int
}

// Op is an operation that goes on by steps.
type Op struct {
	tree  *Tree
	ask   api.TreeOp
	at    place
	steps int64
	told  api.TreeTold
	page  int     // the number of the page that it is at
	way   []int   // numbers of the inner pages above that, from the root on; a list that was put away is not written to
	seen  view    // that page, as it was seen
	lags  []late  // the first one is the one that is taken up
	parts string  // what parts the halves of the page that is split
	fresh []fresh // the halves that have got a number: the right one, and the root's left one
}

// places is what there is to do, by the places' numbers: each answers where it leads.
func (o *Op) places() [atEnd]func() place {
	return [atEnd]func() place{
		atPin:  o.pin,
		atRead: o.read,
		atSwap: o.swap,
		atTidy: o.tidy,
		atPack: o.pack,
		atHalf: o.half,
		atLink: o.link,
		atLag:  o.lag,
		atPost: o.post,
		atHang: o.hang,
		atNear: o.near,
		atOut:  o.out,
	}
}

// Step does one step.
func (o *Op) Step() bool {
	if !o.made() || o.at == atEnd {
		return true
	}
	places := o.places()
	o.steps++
	o.at = places[o.at]()
	if o.at == atLag { // no step of its own
		o.at = places[atLag]()
	}
	if o.at == atEnd {
		*o = Op{tree: o.tree, at: atEnd, steps: o.steps, told: o.told} // what it has seen is not needed any more
	}
	return o.at == atEnd
}

// Told is what it has come to, when it has finished.
func (o *Op) Told() (api.TreeTold, bool) {
	if !o.made() || o.at != atEnd {
		return api.TreeTold{}, false
	}
	told := o.told
	told.List = slices.Clone(told.List)
	return told, true
}

// Steps is how many steps it did.
func (o *Op) Steps() int64 {
	if !o.made() {
		return 0
	}
	return o.steps
}

// made tells whether a tree has begun it.
func (o *Op) made() bool { return o != nil && o.tree != nil }

func (o *Op) pin() place {
	if e := o.tree.epoch.Pin(o.ask.Session); e != api.OK {
		o.told.Err = e
		return atEnd
	}
	return o.fromRoot()
}

func (o *Op) out() place {
	o.tree.epoch.Unpin(o.ask.Session)
	return atEnd
}
