package page

import (
	"slices"
	"sort"
	"strings"

	"cresset/api"
)

// inOrder says whether no Key is below the one ahead of it. Any pages may be handed in, and in others than these halving would miss entries: there they are looked at one by one.
func inOrder(list []api.Entry) bool {
	return slices.IsSortedFunc(list, func(a, b api.Entry) int { return strings.Compare(a.Key, b.Key) })
}

// first is the place of the first entry whose Key is such a one, or that behind the last entry. With a Key each greater one must be such, too.
func first(list []api.Entry, is func(key string) bool) int {
	if inOrder(list) {
		return sort.Search(len(list), func(at int) bool { return is(list[at].Key) })
	}
	at := slices.IndexFunc(list, func(e api.Entry) bool { return is(e.Key) })
	if at < 0 {
		return len(list)
	}
	return at
}

// withKey is the place of the first entry with that Key, and whether there is one.
func withKey(list []api.Entry, key string) (int, bool) {
	if inOrder(list) {
		return slices.BinarySearchFunc(list, key, func(e api.Entry, key string) int { return strings.Compare(e.Key, key) })
	}
	at := slices.IndexFunc(list, func(e api.Entry) bool { return e.Key == key })
	return at, at >= 0
}

// lastUpTo is the place of the last entry whose Key is not above key, and whether there is one.
func lastUpTo(list []api.Entry, key string) (int, bool) {
	if inOrder(list) {
		above := first(list, func(other string) bool { return other > key })
		return above - 1, above > 0
	}
	for at, e := range slices.Backward(list) {
		if e.Key <= key {
			return at, true
		}
	}
	return 0, false
}
