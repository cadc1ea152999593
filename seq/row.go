package seq

import "slices"

// row is a sorted list that gives up its first item and takes others anywhere.
type row[T any] struct {
	items   []T
	compare func(a, b T) int
}

// add lays the items of l between those that are there. It begins with the last one, so that each item that is there moves once at most.
func (r *row[T]) add(l []T) {
	added := slices.SortedFunc(slices.Values(l), r.compare)
	end := len(r.items)
	r.items = append(r.items, added...)
	for ahead := len(added) - 1; ahead >= 0; ahead-- {
		place, _ := slices.BinarySearchFunc(r.items[:end], added[ahead], r.compare)
		copy(r.items[place+ahead+1:], r.items[place:end])
		r.items[place+ahead] = added[ahead]
		end = place
	}
}

// first is the first item, which stays; false, if there is none.
func (r *row[T]) first() (item T, isThere bool) {
	if len(r.items) == 0 {
		return item, false
	}
	return r.items[0], true
}

// dropFirst takes the first item away.
func (r *row[T]) dropFirst() { r.items = r.items[1:] }
