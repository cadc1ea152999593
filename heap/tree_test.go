package heap

import (
	"slices"
	"strings"
	"testing"

	"isochron/draw"
)

// checkTree looks whether any item is ahead of the one above it.
func checkTree[T any](t *testing.T, x *tree[T]) {
	t.Helper()
	for i := 1; i < len(x.items); i++ {
		if x.ahead(x.items[i], x.items[(i-1)/2]) {
			t.Fatalf("%v: the item at %d is ahead of the one above it", x.items, i)
		}
	}
}

// The tree is in the order of whichever comparison it is given.
func TestTreeOfTexts(t *testing.T) {
	x := &tree[string]{ahead: func(a, b string) bool { return len(a) > len(b) || len(a) == len(b) && a < b }}
	for _, text := range strings.Fields("c a bb ddd aa b ccc e dddd aaa") {
		x.add(text)
		checkTree(t, x)
	}
	want := strings.Fields("dddd aaa ccc ddd aa bb a b c e")
	if got := slices.Collect(x.inOrder()); !slices.Equal(got, want) {
		t.Errorf("in order: %v", got)
	}
	for text := range x.inOrder() {
		if text != "dddd" {
			t.Errorf("the first: %s", text)
		}
		break
	}
	for i, text := range x.all() {
		if text != x.items[i] {
			t.Errorf("at %d: %s", i, text)
		}
	}
	if x.size() != 10 || x.first() != "dddd" {
		t.Errorf("behind going over it: %v", x.items)
	}
}

// Items that are the same in the order are all kept.
func TestTreeOfSameOnes(t *testing.T) {
	drawn := 0
	below := func(k int) int {
		drawn++
		return int(draw.Below(5, 0, drawn, int64(k)))
	}
	for range 200 {
		x := &tree[int]{ahead: func(a, b int) bool { return a/10 < b/10 }}
		var l []int
		for range 1 + below(40) {
			l = append(l, below(60))
			x.add(l[len(l)-1])
		}
		var out []int
		for x.size() > 0 {
			checkTree(t, x)
			out = append(out, x.cut(below(x.size())))
		}
		slices.Sort(l)
		slices.Sort(out)
		if !slices.Equal(l, out) {
			t.Fatalf("%v, want %v", out, l)
		}
	}
}
