package calendar

import (
	"slices"
	"sort"

	"isochron/api"
	"isochron/event"
)

// days are sorted lists of messages, by the day that their times fall on; every message of a day is ahead of all those of later ones. A day without messages is not kept, so the first one has the first message.
type days struct {
	width int64
	lists map[int64][]api.Message
	order []int64 // the days that are kept; they rise
}

func newDays(width int64) *days {
	return &days{width: width, lists: map[int64][]api.Message{}}
}

// dayOf is how many whole widths lie between 0 and that time. Below 0 it is rounded down as well: else the day at 0 were twice as wide as the others.
func (d *days) dayOf(time int64) int64 {
	day := time / d.width
	if time%d.width < 0 {
		day--
	}
	return day
}

// first is the message that no other is ahead of; there must be one.
func (d *days) first() api.Message { return d.lists[d.order[0]][0] }

// add puts m on its day.
func (d *days) add(m api.Message) {
	day := d.dayOf(m.Key.Time)
	l := d.lists[day]
	if len(l) == 0 {
		place, _ := slices.BinarySearch(d.order, day)
		d.order = with(d.order, place, day)
	}
	d.lists[day] = with(l, placeIn(l, m), m)
}

// cut takes the message out whose place in the order is that of m; it must be there.
func (d *days) cut(m api.Message) api.Message {
	day := d.dayOf(m.Key.Time)
	l := d.lists[day]
	place := placeIn(l, m)
	gone := l[place]
	if len(l) == 1 {
		d.end(day)
	} else {
		d.lists[day] = without(l, place)
	}
	return gone
}

// end deletes a day.
func (d *days) end(day int64) {
	delete(d.lists, day)
	place, _ := slices.BinarySearch(d.order, day)
	d.order = without(d.order, place)
}

// joined is a new list of all the messages, of which there are n, in their order.
func (d *days) joined(n int) []api.Message {
	l := make([]api.Message, n)
	end := 0
	for _, day := range d.order {
		end += copy(l[end:], d.lists[day])
	}
	return l
}

// placeIn is how many of l are ahead of m. As l is sorted, few are looked at; event.Place looks at all.
func placeIn(l []api.Message, m api.Message) int {
	return sort.Search(len(l), func(i int) bool { return !event.Before(l[i], m) })
}

// with is l with x at that place. It may lie in l's memory, so l is not to be used any more.
func with[T any](l []T, place int, x T) []T {
	l = append(l, x)
	copy(l[place+1:], l[place:])
	l[place] = x
	return l
}

// without is l without the item at that place, in l's memory: of the parts ahead of it and behind it the shorter one is moved, so that nothing is where the first one goes.
func without[T any](l []T, place int) []T {
	ahead, behind := l[:place:place], l[place+1:]
	if len(ahead) < len(behind) {
		copy(l[1:], ahead)
		return l[1:]
	}
	copy(l[place:], behind)
	return l[:len(l)-1]
}
