package index

import (
	"slices"
	"sort"
)

// sorted is a list in the order of its elements' keys, no two alike; rises tells whether it is so, the other methods take it for granted.
type sorted[E, K any] struct {
	list []E
	key  func(E) K
	less func(a, b K) bool
}

// rises tells whether each key stands behind the one ahead of it.
func (s sorted[E, K]) rises() bool {
	for i := 1; i < len(s.list); i++ {
		if !s.less(s.key(s.list[i-1]), s.key(s.list[i])) {
			return false
		}
	}
	return true
}

// find tells the first place whose key is not below k, and whether k stands there.
func (s sorted[E, K]) find(k K) (int, bool) {
	at := sort.Search(len(s.list), func(i int) bool { return !s.less(s.key(s.list[i]), k) })
	return at, at < len(s.list) && !s.less(k, s.key(s.list[at]))
}

// with is a new list with x at its place; false, if its key is there.
func (s sorted[E, K]) with(x E) ([]E, bool) {
	at, there := s.find(s.key(x))
	if there {
		return nil, false
	}
	return slices.Concat(s.list[:at], []E{x}, s.list[at:]), true
}

// without is a new list without the element of that key; false, if there is none.
func (s sorted[E, K]) without(k K) ([]E, bool) {
	at, there := s.find(k)
	if !there {
		return nil, false
	}
	return slices.Concat(s.list[:at], s.list[at+1:]), true
}
