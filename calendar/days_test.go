package calendar

import (
	"math"
	"slices"
	"testing"

	"isochron/api"
	"isochron/draw"
)

// The width of a day: each is as wide as the others, below 0 and above, and a later time is never on an earlier day.
func TestDayOf(t *testing.T) {
	for _, c := range []struct{ width, time, want int64 }{
		{10, 0, 0}, {10, 1, 0}, {10, 9, 0}, {10, 10, 1}, {10, 19, 1}, {10, 20, 2},
		{10, -1, -1}, {10, -9, -1}, {10, -10, -1}, {10, -11, -2}, {10, -20, -2}, {10, -21, -3},
		{1, 0, 0}, {1, -1, -1}, {1, 7, 7}, {1, math.MinInt64, math.MinInt64}, {1, math.MaxInt64, math.MaxInt64},
		{2, math.MinInt64, math.MinInt64 / 2}, {2, math.MaxInt64, math.MaxInt64 / 2},
		{math.MaxInt64, math.MaxInt64, 1}, {math.MaxInt64, math.MaxInt64 - 1, 0}, {math.MaxInt64, -1, -1},
		{math.MaxInt64, -math.MaxInt64, -1}, {math.MaxInt64, math.MinInt64, -2},
		{api.MaxTime, api.MaxTime, 1}, {api.MaxTime, api.Never, 1}, {api.MaxTime, api.MaxTime - 1, 0},
	} {
		if got := newDays(c.width).dayOf(c.time); got != c.want {
			t.Errorf("width %d: the day of %d is %d, want %d", c.width, c.time, got, c.want)
		}
	}
	d := newDays(7)
	on := map[int64]int{}
	for time := int64(-70); time < 70; time++ {
		on[d.dayOf(time)]++
		if d.dayOf(time) < d.dayOf(time-1) {
			t.Errorf("%d is on an earlier day than %d", time, time-1)
		}
	}
	for day, times := range on {
		if times != 7 {
			t.Errorf("on the day %d are %d times", day, times)
		}
	}
}

// checkDays looks whether each day that is kept has messages, all of them its own and in their order, and whether the days rise.
func checkDays(t *testing.T, d *days, size int) {
	t.Helper()
	if len(d.order) != len(d.lists) || !slices.IsSorted(d.order) {
		t.Fatalf("%d days, in the order %v", len(d.lists), d.order)
	}
	for _, day := range d.order {
		l := d.lists[day]
		if len(l) == 0 {
			t.Fatalf("the day %d is empty", day)
		}
		for i, m := range l {
			if d.dayOf(m.Key.Time) != day || i > 0 && l[i-1].Key.Time > m.Key.Time {
				t.Fatalf("the day %d: %v", day, l)
			}
		}
		size -= len(l)
	}
	if size != 0 {
		t.Fatalf("%d messages are on no day", size)
	}
}

// A day is kept just as long as it has messages, so that a queue that is used on and on doesn't grow.
func TestDaysEnd(t *testing.T) {
	for _, width := range []int64{1, 5, 64, math.MaxInt64} {
		q, _ := New(width)
		drawn := 0
		below := func(n int) int {
			drawn++
			return int(draw.Below(uint64(width), 0, drawn, int64(n)))
		}
		for i := range 3000 {
			switch below(4) {
			case 0:
				q.Pop()
			case 1:
				q.Cut(0, i-below(40))
			default:
				q.Push(api.Message{Key: api.Key{Time: int64(below(400) - 200)}, Uid: i})
			}
			if q.Len() > 60 {
				q.Pop()
			}
			checkDays(t, q.days, q.Len())
		}
		for q.Len() > 0 {
			q.Pop()
		}
		checkDays(t, q.days, 0)
	}
}

// rising is 0 to n - 1, in memory with room for more.
func rising(n, room int) []int {
	l := make([]int, n, n+room)
	for i := range l {
		l[i] = i
	}
	return l
}

// with and without are what slices.Insert and slices.Delete make, at each place, with room and without.
func TestWithAndWithout(t *testing.T) {
	for n := range 12 {
		for room := range 3 {
			for place := range n + 1 {
				if got, want := with(rising(n, room), place, 99), slices.Insert(rising(n, 0), place, 99); !slices.Equal(got, want) {
					t.Errorf("0 to %d with 99 at %d: %v", n-1, place, got)
				}
			}
			for place := range n {
				if got, want := without(rising(n, room), place), slices.Delete(rising(n, 0), place, place+1); !slices.Equal(got, want) {
					t.Errorf("0 to %d without the one at %d: %v", n-1, place, got)
				}
			}
		}
	}
}
