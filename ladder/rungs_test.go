package ladder

import (
	"testing"

	"isochron/api"
	"isochron/draw"
	"isochron/event"
)

// checkRungs looks whether the bottom is sorted and not too long, whether each rung lies behind all that are lower, and whether none is kept that is empty.
func checkRungs(t *testing.T, q *Ladder) {
	t.Helper()
	if q.size() > q.most || q.size() == 0 && len(q.above) > 0 {
		t.Fatalf("%d of %d at the bottom, %d rungs above it", q.size(), q.most, len(q.above))
	}
	size := q.size()
	lower := q.list
	for i := range lower[min(1, len(lower)):] {
		if !event.Before(lower[i], lower[i+1]) {
			t.Fatalf("the bottom: %v", lower)
		}
	}
	for i := len(q.above) - 1; i >= 0; i-- {
		rung := q.above[i]
		if rung.size() == 0 {
			t.Fatalf("the rung %d is empty", i)
		}
		for _, m := range lower {
			if !event.Before(m, rung.foot) {
				t.Fatalf("%v is lower than the foot %v", m, rung.foot)
			}
		}
		for _, m := range rung.list {
			if event.Before(m, rung.foot) {
				t.Fatalf("%v is above the foot %v", m, rung.foot)
			}
		}
		size += rung.size()
		lower = rung.list
	}
	if size != q.Len() || size != len(q.there) {
		t.Fatalf("%d messages in the rungs, Len %d", size, q.Len())
	}
}

// The rungs stay as they are meant to be, and a queue that is used on and on doesn't grow.
func TestRungs(t *testing.T) {
	for _, most := range []int{1, 2, 3, 8, 64, api.MaxQueue} {
		for _, times := range []int{1, 3, 400} {
			q, _ := New(most)
			drawn := 0
			below := func(n int) int {
				drawn++
				return int(draw.Below(uint64(most), times, drawn, int64(n)))
			}
			for i := range 3000 {
				switch below(4) {
				case 0:
					q.Pop()
				case 1:
					q.Cut(0, i-below(40))
				default:
					q.Push(api.Message{Key: api.Key{Time: int64(below(times) - times/2)}, Uid: i})
				}
				if q.Len() > 60 {
					q.Pop()
				}
				checkRungs(t, q)
			}
			for q.Len() > 0 {
				q.Pop()
				checkRungs(t, q)
			}
		}
	}
}

// sizes are how many messages lie in each rung, the highest one first, the bottom last.
func sizes(q *Ladder) [4]int {
	var l [4]int
	for i := range len(q.above) + 1 {
		l[i] = q.at(i).size()
	}
	return l
}

// pushTimes pushes messages whose Uids are their times.
func pushTimes(q *Ladder, times ...int) {
	for _, time := range times {
		q.Push(api.Message{Key: api.Key{Time: int64(time)}, Uid: time})
	}
}

// What is too much for the bottom goes up; an empty bottom is filled from above, half by half; a rung that a Cut empties is gone, and one whose foot is cut stays where it was.
func TestUpAndDown(t *testing.T) {
	q, _ := New(2)
	for i, c := range []struct {
		call func()
		want [4]int
	}{
		{func() { pushTimes(q, 50, 60) }, [4]int{2}},
		{func() { pushTimes(q, 70) }, [4]int{1, 2}},
		{func() { pushTimes(q, 80, 75, 71, 100, 90) }, [4]int{6, 2}},
		{func() { pushTimes(q, 55) }, [4]int{7, 2}},
		{func() { q.Pop() }, [4]int{7, 1}},
		{func() { q.Cut(0, 60) }, [4]int{6, 1}},
		{func() { pushTimes(q, 60) }, [4]int{7, 1}},
		{func() { q.Pop() }, [4]int{3, 2, 2}},
		{func() { pushTimes(q, 76, 77) }, [4]int{3, 4, 2}},
		{func() { q.Cut(0, 80); q.Cut(0, 100); q.Cut(0, 90) }, [4]int{4, 2}},
		{func() { pushTimes(q, 200) }, [4]int{5, 2}},
		{func() { q.Cut(0, 70); q.Cut(0, 60) }, [4]int{2, 1, 2}},
		{func() { pushTimes(q, 1, 2, 3) }, [4]int{2, 4, 2}},
	} {
		if c.call(); sizes(q) != c.want {
			t.Errorf("call %d: %v, want %v", i, sizes(q), c.want)
		}
		checkRungs(t, q)
	}
}

// Of a bottom that is too long half goes up, so that not each Push behind it moves messages up.
func TestHalfGoesUp(t *testing.T) {
	q, _ := New(7)
	pushTimes(q, 1, 2, 3, 4, 5, 6, 7)
	for i, want := range [][4]int{{4, 4}, {4, 5}, {4, 6}, {4, 7}, {8, 4}, {8, 5}} {
		if pushTimes(q, -i); sizes(q) != want {
			t.Errorf("Push %d: %v, want %v", i, sizes(q), want)
		}
		checkRungs(t, q)
	}
	q, _ = New(8)
	pushTimes(q, 1, 2, 3, 4, 5, 6, 7, 8, 9)
	if want := [4]int{4, 5}; sizes(q) != want {
		t.Errorf("an odd one: %v, want %v", sizes(q), want)
	}
}

// The parts of a rung that is parted lie in one memory: what is added to one must not change another.
func TestPartsAreApart(t *testing.T) {
	q, _ := New(1)
	for uid := range 64 {
		q.Push(api.Message{Key: api.Key{Time: int64(uid) * 10}, Uid: uid})
	}
	q.Pop()
	for uid := range 64 {
		q.Push(api.Message{Key: api.Key{Time: int64(uid)*10 + 5}, Uid: 100 + uid})
		checkRungs(t, q)
	}
	want := int64(5)
	for q.Len() > 0 {
		if m, _ := q.Pop(); m.Key.Time != want {
			t.Fatalf("Pop: %v, want the one at %d", m, want)
		}
		want += 5
	}
	if want != 64*10 {
		t.Errorf("the last Pop was at %d", want-5)
	}
}
