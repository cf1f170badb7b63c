package tree

import (
	"slices"

	"cresset/api"
	"cresset/page"
)

// lagOnce lets a page lag, unless it does already.
func (o *Op) lagOnce(x late) {
	for _, y := range o.lags {
		if y.page == x.page && y.key == x.key && slices.Equal(y.way, x.way) {
			return
		}
	}
	o.lags = append(o.lags, x)
}

// lag takes up the first one that lags.
func (o *Op) lag() place {
	if len(o.lags) == 0 {
		return atOut
	}
	way := o.lags[0].way // a page with nothing above it never lags
	o.page = way[len(way)-1]
	return atPost
}

// letGo is done with what was taken up.
func (o *Op) letGo() place {
	o.lags = o.lags[1:]
	return atLag
}

func (o *Op) post() place {
	x := o.lags[0]
	v, e := o.tree.look(o.page)
	if e != api.OK || x.key < v.page.Low {
		return o.letGo()
	}
	if !page.Has(v.page, x.key) {
		o.page = v.page.Right
		return atPost
	}
	if y, is := page.Find(v.page, x.key); is && y.Key == x.key {
		return o.letGo()
	}
	if child, e := o.tree.look(x.page); e != api.OK || child.page.Low != x.key {
		return o.letGo()
	}
	o.seen = v
	return atHang
}

func (o *Op) hang() place {
	x := o.lags[0]
	put := api.Delta{Kind: api.DeltaPut, Entry: api.Entry{Key: x.key, Child: x.page}}
	head, e := o.tree.grow(o.seen.head, put, o.tree.kept)
	if e != api.OK {
		return o.letGo()
	}
	if !o.tree.swap(o.page, o.seen.head, head) {
		return atPost
	}
	o.letGo()
	o.way = x.way[:len(x.way)-1]
	return atTidy
}
