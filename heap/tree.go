package heap

import (
	"iter"
	"slices"
)

// tree is a binary heap in a slice: below the item at i lie those at 2i + 1 and 2i + 2, neither of them ahead of it.
type tree[T any] struct {
	items []T
	ahead func(a, b T) bool
}

func (t *tree[T]) size() int { return len(t.items) }

// first is the item that no other is ahead of; the tree must have one.
func (t *tree[T]) first() T { return t.items[0] }

// all goes over the items as they lie, each with its place.
func (t *tree[T]) all() iter.Seq2[int, T] {
	return func(yield func(int, T) bool) {
		for place, x := range t.items {
			if !yield(place, x) {
				return
			}
		}
	}
}

// inOrder goes over the items from the first to the last. A copy is taken apart, so the tree stays as it is.
func (t *tree[T]) inOrder() iter.Seq[T] {
	return func(yield func(T) bool) {
		rest := &tree[T]{items: slices.Clone(t.items), ahead: t.ahead}
		for rest.size() > 0 {
			if !yield(rest.cut(0)) {
				return
			}
		}
	}
}

// add puts x into the tree.
func (t *tree[T]) add(x T) {
	t.items = append(t.items, x)
	t.raise(t.size() - 1)
}

// cut takes the item at that place out of the tree; the last one fills the gap.
func (t *tree[T]) cut(place int) T {
	last := t.size() - 1
	t.swap(place, last)
	gone := t.items[last]
	t.items = t.items[:last]
	if place < last {
		// What fills the gap may come from another branch, so it may belong higher as well as lower.
		t.raise(place)
		t.sink(place)
	}
	return gone
}

// raise moves the item at that place up, past all that it is ahead of.
func (t *tree[T]) raise(place int) {
	for place > 0 {
		above := (place - 1) / 2
		if !t.ahead(t.items[place], t.items[above]) {
			return
		}
		t.swap(place, above)
		place = above
	}
}

// sink moves the item at that place down, past all that are ahead of it.
func (t *tree[T]) sink(place int) {
	for {
		least := t.least(place)
		if least == place {
			return
		}
		t.swap(place, least)
		place = least
	}
}

// least is the place of the first of three: the item at that place and the two below it, as far as they are there.
func (t *tree[T]) least(place int) int {
	least := place
	for _, below := range [2]int{2*place + 1, 2*place + 2} {
		if below < t.size() && t.ahead(t.items[below], t.items[least]) {
			least = below
		}
	}
	return least
}

func (t *tree[T]) swap(i, j int) { t.items[i], t.items[j] = t.items[j], t.items[i] }
