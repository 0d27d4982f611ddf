package store

import (
	"iter"
	"maps"
	"slices"
)

// held is things by their keys, twice: as they last, and as they are to be.
type held[K comparable, V any] struct {
	lasts, pending map[K]V
	order          func(a, b K) int
}

// hold is held of things that last.
func hold[K comparable, V any](lasts map[K]V, order func(a, b K) int) held[K, V] {
	h := held[K, V]{lasts: lasts, order: order}
	h.abort()
	return h
}

// find tells the pending thing of that key.
func (h *held[K, V]) find(k K) (V, bool) {
	v, ok := h.pending[k]
	return v, ok
}

// set makes v the pending thing of that key.
func (h *held[K, V]) set(k K, v V) { h.pending[k] = v }

// drop leaves no pending thing of that key.
func (h *held[K, V]) drop(k K) { delete(h.pending, k) }

// abort makes pending what lasts; a copy, so that what lasts stays whatever comes.
func (h *held[K, V]) abort() {
	h.pending = make(map[K]V, len(h.lasts))
	maps.Copy(h.pending, h.lasts)
}

// all goes through what is pending, by rising keys.
func (h *held[K, V]) all() iter.Seq2[K, V] {
	return func(yield func(K, V) bool) {
		for _, k := range slices.SortedFunc(maps.Keys(h.pending), h.order) {
			if !yield(k, h.pending[k]) {
				return
			}
		}
	}
}
