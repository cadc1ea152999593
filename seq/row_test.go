package seq

import (
	"cmp"
	"slices"
	"testing"
)

// P14.1: a row is the sorted list of what was added, less what was taken from its beginning.
func TestRow(t *testing.T) {
	for seed := range uint64(300) {
		c := &chance{seed: seed}
		r := row[int]{compare: cmp.Compare[int]}
		var plain []int
		for range 60 {
			var l []int
			for range c.below(9) {
				l = append(l, c.below(40))
			}
			kept := slices.Clone(l)
			r.add(l)
			if !slices.Equal(l, kept) {
				t.Fatalf("%v was changed to %v", kept, l)
			}
			plain = append(plain, l...)
			slices.Sort(plain)
			for range c.below(6) {
				if _, isThere := r.first(); isThere {
					r.dropFirst()
					plain = plain[1:]
				}
			}
			first, isThere := r.first()
			if !slices.Equal(r.items, plain) || isThere != (len(plain) > 0) || isThere && first != plain[0] {
				t.Fatalf("%v, first %d, want %v", r.items, first, plain)
			}
		}
	}
}

// P14.1: an empty row has no first item.
func TestEmptyRow(t *testing.T) {
	r := row[string]{compare: cmp.Compare[string]}
	r.add(nil)
	r.add([]string{})
	if s, isThere := r.first(); isThere || s != "" {
		t.Errorf("%q, %v", s, isThere)
	}
}
