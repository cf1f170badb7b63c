package tree_test

import (
	"slices"

	"cresset/api"
	"cresset/delta"
	"cresset/epoch"
	"cresset/page"
)

// paper is the chapter's words written a second time: nodes and heads in plain lists, places as words, one long switch.
type paper struct {
	gens   []int64
	nodes  []*api.Node // nil: the slot is free
	state  []int
	heads  []api.Handle
	epoch  *epoch.Epoch
	kept   int
	missed int64
}

func newPaper(nodes, pages int) *paper {
	t := &paper{gens: make([]int64, nodes), nodes: make([]*api.Node, nodes), state: make([]int, pages), heads: make([]api.Handle, pages), epoch: epoch.New()}
	h, _ := t.begin(api.Page{Leaf: true})
	t.alloc(h)
	return t
}

func (t *paper) free() int {
	n := 0
	for _, x := range t.nodes {
		if x == nil {
			n++
		}
	}
	return n
}

func (t *paper) live() int {
	n := 0
	for _, s := range t.state {
		if s == api.PageLive {
			n++
		}
	}
	return n
}

func (t *paper) put(x api.Node, room bool) (api.Handle, bool) {
	if !room {
		return api.Handle{}, false
	}
	at := slices.Index(t.nodes, nil)
	t.nodes[at] = &x
	t.gens[at]++
	return api.Handle{Slot: at, Gen: t.gens[at]}, true
}

func (t *paper) take(h api.Handle) { t.nodes[h.Slot] = nil }

func (t *paper) room() bool { return t.free() > t.kept }

func (t *paper) begin(p api.Page) (api.Handle, bool) {
	return t.put(api.Node{Base: true, Page: page.Clone(p)}, t.room())
}

func (t *paper) grow(h api.Handle, d api.Delta, room bool) (api.Handle, bool) {
	return t.put(api.Node{Delta: d, Next: h}, room)
}

func (t *paper) alloc(h api.Handle) (int, bool) {
	at := slices.Index(t.state, api.PageFree)
	if at < 0 {
		return 0, false
	}
	t.state[at], t.heads[at] = api.PageLive, h
	return at, true
}

func (t *paper) isLive(n int) bool { return n >= 0 && n < len(t.state) && t.state[n] == api.PageLive }

func (t *paper) cas(n int, was, is api.Handle) bool {
	if !t.isLive(n) {
		return false
	}
	if t.heads[n] != was {
		t.missed++
		return false
	}
	t.heads[n] = is
	return true
}

// chain is a chain's handles, its page, and how many deltas it has.
func (t *paper) chain(h api.Handle) ([]api.Handle, api.Page, int) {
	var handles []api.Handle
	var deltas []api.Delta
	for {
		if t.nodes[h.Slot] == nil || t.gens[h.Slot] != h.Gen {
			panic("the paper has met a stale handle")
		}
		n := t.nodes[h.Slot]
		handles = append(handles, h)
		if n.Base {
			p := page.Clone(n.Page)
			for _, d := range slices.Backward(deltas) {
				q, e := delta.Apply(p, d)
				if e != api.OK {
					panic("the paper has met a delta that does not fit")
				}
				p = q
			}
			return handles, p, len(deltas)
		}
		deltas = append(deltas, n.Delta)
		h = n.Next
	}
}

func (t *paper) page(n int) (api.Handle, api.Page, int) {
	_, p, long := t.chain(t.heads[n])
	return t.heads[n], p, long
}

func (t *paper) retire(h api.Handle) {
	handles, _, _ := t.chain(h)
	for _, h := range handles {
		t.epoch.Retire(api.Retired{Kind: api.ReNode, Handle: h})
	}
}

// release is what Free does, of what may be freed.
func (t *paper) release(x api.Retired) {
	if x.Kind == api.ReNode {
		t.take(x.Handle)
	} else {
		t.state[x.Handle.Slot] = api.PageFree
	}
}

// entries is what the leaves have, by the ranges of all live leaves that can be reached: from the empty key on, always the leaf that a search from the root comes to.
func (t *paper) entries() []api.Entry {
	var list []api.Entry
	key := ""
	for {
		_, p, _ := t.page(0)
		for !p.Leaf || !page.Has(p, key) {
			next := p.Right
			if page.Has(p, key) {
				x, _ := page.Find(p, key)
				next = x.Child
			}
			_, p, _ = t.page(next)
		}
		list = append(list, p.List...)
		if key = p.High; key == "" {
			return list
		}
	}
}

type paperLag struct {
	way  []int
	key  string
	page int
}

// paperOp is a fiber of the paper.
type paperOp struct {
	t      *paper
	ask    api.TreeOp
	at     string
	way    []int
	page   int
	head   api.Handle
	seen   api.Page
	lags   []paperLag
	parts  string
	right  int
	left   int
	rightH api.Handle
	leftH  api.Handle
	told   api.TreeTold
	steps  int64
}

func (t *paper) op(o api.TreeOp) *paperOp { return &paperOp{t: t, ask: o, at: "Pin"} }

func (o *paperOp) finished() bool { return o.at == "" }

// step does what the place says.
func (o *paperOp) step() bool {
	if o.finished() {
		return true
	}
	o.steps++
	switch o.at {
	case "Pin":
		if e := o.t.epoch.Pin(o.ask.Session); e != api.OK {
			o.told.Err = e
			o.at = ""
		} else {
			o.page, o.way, o.at = 0, nil, "Read"
		}
	case "Read":
		o.at = o.read()
	case "Swap":
		o.at = o.swap()
	case "Tidy":
		o.at = o.tidy()
	case "Pack":
		o.at = o.pack()
	case "Half":
		o.at = o.half()
	case "Link":
		o.at = o.link()
	case "Post":
		o.at = o.post()
	case "Hang":
		o.at = o.hang()
	case "Near":
		o.at = o.near()
	case "Out":
		o.t.epoch.Unpin(o.ask.Session)
		o.at = ""
	}
	if o.at == "Lag" {
		o.at = "Out"
		if len(o.lags) > 0 {
			o.page = o.lags[0].way[len(o.lags[0].way)-1]
			o.at = "Post"
		}
	}
	return o.finished()
}

func (o *paperOp) read() string {
	t, k := o.t, o.ask.Key
	if !t.isLive(o.page) {
		o.page, o.way = 0, nil
		return "Read"
	}
	o.head, o.seen, _ = t.page(o.page)
	p := o.seen
	if k < p.Low {
		o.page, o.way = 0, nil
		return "Read"
	}
	if p.High != "" && k >= p.High {
		if len(o.way) > 0 && !slices.ContainsFunc(o.lags, func(l paperLag) bool {
			return slices.Equal(l.way, o.way) && l.key == p.High && l.page == p.Right
		}) {
			o.lags = append(o.lags, paperLag{slices.Clone(o.way), p.High, p.Right})
		}
		o.page = p.Right
		return "Read"
	}
	if !p.Leaf {
		o.way = append(slices.Clone(o.way), o.page)
		x, _ := page.Find(p, k)
		o.page = x.Child
		return "Read"
	}
	x, found := page.Find(p, k)
	switch o.ask.Kind {
	case api.OpGet:
		o.told.Entry, o.told.Found = x, found
	case api.OpLeaf:
		for _, x := range p.List {
			if x.Key >= k {
				o.told.List = append(o.told.List, x)
			}
		}
		o.told.More, o.told.Next = p.High != "", p.High
	case api.OpAdd:
		if !found {
			return "Swap"
		}
		o.told.Entry = x
	case api.OpRemove:
		if found && x.Ref == o.ask.Ref {
			return "Swap"
		}
		o.told.Entry = x
	case api.OpShrink:
		if len(p.List) < api.PageLeast && o.page != 0 && len(o.way) > 0 {
			return "Near"
		}
	}
	return "Lag"
}

func (o *paperOp) swap() string {
	t := o.t
	entry := api.Entry{Key: o.ask.Key, Ref: o.ask.Ref}
	d := api.Delta{Kind: api.DeltaPut, Entry: entry}
	if o.ask.Kind == api.OpRemove {
		d = api.Delta{Kind: api.DeltaRemove, Key: o.ask.Key}
	}
	room := t.room()
	if o.ask.Kept {
		room = t.free() > 0
	}
	h, ok := t.grow(o.head, d, room)
	if !ok {
		o.told.Err = api.ErrFull
		return "Out"
	}
	if !t.cas(o.page, o.head, h) {
		t.take(h)
		return "Read"
	}
	if o.ask.Kept && t.kept > 0 {
		t.kept--
	}
	o.told.Entry, o.told.Found = entry, true
	return "Tidy"
}

func (o *paperOp) tidy() string {
	if !o.t.isLive(o.page) {
		return "Lag"
	}
	var long int
	o.head, o.seen, long = o.t.page(o.page)
	if long > api.DeltaMost {
		return "Pack"
	}
	if len(o.seen.List) > api.PageMost {
		return "Half"
	}
	return "Lag"
}

func (o *paperOp) pack() string {
	t := o.t
	_, p, _ := t.chain(o.head)
	h, ok := t.begin(p)
	if !ok {
		return "Lag"
	}
	if !t.cas(o.page, o.head, h) {
		t.take(h)
		return "Tidy"
	}
	t.retire(o.head)
	return "Tidy"
}

func (o *paperOp) half() string {
	t := o.t
	left, right, e := page.Split(o.seen, 1)
	if e != api.OK {
		panic("the paper has met a page that can't be split")
	}
	o.parts = right.Low
	var ok bool
	if o.rightH, ok = t.begin(right); !ok {
		return "Lag"
	}
	if o.right, ok = t.alloc(o.rightH); !ok {
		t.take(o.rightH)
		return "Lag"
	}
	if o.page != 0 {
		return "Link"
	}
	left.Right = o.right
	if o.leftH, ok = t.begin(left); !ok {
		o.back(o.right, o.rightH)
		return "Lag"
	}
	if o.left, ok = t.alloc(o.leftH); !ok {
		t.take(o.leftH)
		o.back(o.right, o.rightH)
		return "Lag"
	}
	return "Link"
}

func (o *paperOp) back(n int, h api.Handle) {
	o.t.state[n] = api.PageFree
	o.t.take(h)
}

func (o *paperOp) link() string {
	t := o.t
	if o.page != 0 {
		h, ok := t.grow(o.head, api.Delta{Kind: api.DeltaSplit, Key: o.parts, Page: o.right}, t.room())
		if !ok {
			o.back(o.right, o.rightH)
			return "Lag"
		}
		if !t.cas(o.page, o.head, h) {
			t.take(h)
			o.back(o.right, o.rightH)
			return "Tidy"
		}
		if len(o.way) > 0 {
			o.lags = append(o.lags, paperLag{slices.Clone(o.way), o.parts, o.right})
		}
		return "Lag"
	}
	h, ok := t.begin(api.Page{List: []api.Entry{{Child: o.left}, {Key: o.parts, Child: o.right}}})
	if !ok {
		o.back(o.right, o.rightH)
		o.back(o.left, o.leftH)
		return "Lag"
	}
	if !t.cas(0, o.head, h) {
		t.take(h)
		o.back(o.right, o.rightH)
		o.back(o.left, o.leftH)
		return "Tidy"
	}
	t.retire(o.head)
	return "Lag"
}

func (o *paperOp) letGo() string {
	o.lags = slices.Delete(o.lags, 0, 1)
	return "Lag"
}

func (o *paperOp) post() string {
	t, l := o.t, o.lags[0]
	if !t.isLive(o.page) {
		return o.letGo()
	}
	h, p, _ := t.page(o.page)
	if l.key < p.Low {
		return o.letGo()
	}
	if p.High != "" && l.key >= p.High {
		o.page = p.Right
		return "Post"
	}
	for _, x := range p.List {
		if x.Key == l.key {
			return o.letGo()
		}
	}
	if !t.isLive(l.page) {
		return o.letGo()
	}
	if _, q, _ := t.page(l.page); q.Low != l.key {
		return o.letGo()
	}
	o.head, o.seen = h, p
	return "Hang"
}

func (o *paperOp) hang() string {
	t, l := o.t, o.lags[0]
	h, ok := t.grow(o.head, api.Delta{Kind: api.DeltaPut, Entry: api.Entry{Key: l.key, Child: l.page}}, t.room())
	if !ok {
		return o.letGo()
	}
	if !t.cas(o.page, o.head, h) {
		t.take(h)
		return "Post"
	}
	o.way = slices.Clone(l.way[:len(l.way)-1])
	o.letGo()
	return "Tidy"
}

func (o *paperOp) near() string {
	t := o.t
	for s := 0; s <= api.Sessions; s++ {
		if _, is := t.epoch.Pinned(s); is && s != o.ask.Session {
			return "Lag"
		}
	}
	if !t.isLive(o.page) || t.heads[o.page] != o.head || o.seen.Low == "" {
		return "Lag"
	}
	left := -1
	var pages, places []int
	var keys []string
	for n := range t.state {
		if !t.isLive(n) {
			continue
		}
		_, p, _ := t.page(n)
		if p.Leaf && p.High == o.seen.Low && left < 0 {
			left = n
		}
		for at, x := range p.List {
			if !p.Leaf && x.Child == o.page {
				pages, places, keys = append(pages, n), append(places, at), append(keys, x.Key)
			}
		}
	}
	if left < 0 || slices.Contains(places, 0) || t.free()-t.kept < len(pages)+1 {
		return "Lag"
	}
	if _, p, _ := t.page(left); len(p.List)+len(o.seen.List) > api.PageMost {
		return "Lag"
	}
	h, _ := t.grow(t.heads[left], api.Delta{Kind: api.DeltaMerge, Right: o.seen}, true)
	t.heads[left] = h
	for i, n := range pages {
		h, _ := t.grow(t.heads[n], api.Delta{Kind: api.DeltaRemove, Key: keys[i]}, true)
		t.heads[n] = h
	}
	t.retire(o.head)
	t.state[o.page] = api.PageGone
	t.epoch.Retire(api.Retired{Kind: api.RePage, Handle: api.Handle{Slot: o.page}})
	o.told.Found = true
	o.page = left
	return "Tidy"
}
