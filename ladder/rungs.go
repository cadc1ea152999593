package ladder

import (
	"slices"
	"sort"

	"isochron/api"
	"isochron/event"
)

// rung is some of a ladder's messages.
type rung struct {
	list []api.Message
}

func (r *rung) size() int { return len(r.list) }

func (r *rung) add(m api.Message) { r.list = append(r.list, m) }

// cut takes the message at that place out; the others stay in the order in which they lie.
func (r *rung) cut(place int) api.Message {
	gone := r.list[place]
	if place == 0 {
		// Of the bottom it is mostly the first one that goes: then nothing is moved.
		r.list = r.list[1:]
	} else {
		r.list = slices.Delete(r.list, place, place+1)
	}
	return gone
}

// bottom is the lowest rung, of so many messages at most; it alone is sorted.
type bottom struct {
	rung
	most int
}

// add puts m where it belongs in the order. As the bottom is sorted, few are looked at; event.Place looks at all.
func (b *bottom) add(m api.Message) {
	place := sort.Search(b.size(), func(i int) bool { return event.Before(m, b.list[i]) })
	b.list = slices.Insert(b.list, place, m)
}

// first is the message that no other is ahead of; there must be one.
func (b *bottom) first() api.Message { return b.list[0] }

// upper is a rung above the bottom, in no order: none of its messages is ahead of its foot, and all that lie lower are.
type upper struct {
	rung
	foot api.Message
}

// rungs are the bottom and what lies above it, the highest one first. None above is empty; the bottom is so only if there is none above it, so it has the first message.
type rungs struct {
	bottom
	above []upper
}

func newRungs(most int) *rungs { return &rungs{bottom: bottom{most: most}} }

// at is the rung i of all, the highest one first; behind those above comes the bottom.
func (r *rungs) at(i int) *rung {
	if i < len(r.above) {
		return &r.above[i].rung
	}
	return &r.rung
}

// put puts m into the highest rung whose foot it is not ahead of, or else into the bottom.
func (r *rungs) put(m api.Message) {
	i := sort.Search(len(r.above), func(i int) bool { return !event.Before(m, r.above[i].foot) })
	if i < len(r.above) {
		r.above[i].add(m)
		return
	}
	r.add(m)
	if r.size() > r.most {
		r.spill()
	}
}

// spill lets the later half of the bottom up to the lowest rung above it, whose foot comes down to them.
func (r *rungs) spill() {
	if len(r.above) == 0 {
		r.above = append(r.above, upper{})
	}
	half := (r.size() + 1) / 2
	lowest := &r.above[len(r.above)-1]
	lowest.list = append(lowest.list, r.list[half:]...)
	lowest.foot = r.list[half]
	r.list = r.list[:half]
}

// refill lets the lowest rung above down to the bottom, which is empty. While they are too many, the later half stays up as a rung of its own; so what is sorted once is near its place when it is sorted again.
func (r *rungs) refill() {
	last := len(r.above) - 1
	l := event.Sorted(r.above[last].list)
	r.above = r.above[:last]
	for len(l) > r.most {
		half := (len(l) + 1) / 2
		r.above = append(r.above, upper{rung: rung{list: l[half:]}, foot: l[half]})
		l = l[:half:half]
	}
	r.list = l
}

// pop takes the first message out; there must be one.
func (r *rungs) pop() api.Message { return r.take(len(r.above), 0) }

// drop takes the message of s out; it must be there.
func (r *rungs) drop(s sending) api.Message {
	var i, place int
search:
	for i = range len(r.above) + 1 {
		for place = range r.at(i).size() {
			if sendingOf(r.at(i).list[place]) == s {
				break search
			}
		}
	}
	return r.take(i, place)
}

// take takes the message at that place of the rung i out.
func (r *rungs) take(i, place int) api.Message {
	gone := r.at(i).cut(place)
	if r.at(i).size() == 0 {
		r.end(i)
	}
	return gone
}

// end ends the rung i, which is empty; the bottom stays, and is filled again.
func (r *rungs) end(i int) {
	switch {
	case i < len(r.above):
		r.above = slices.Delete(r.above, i, i+1)
	case len(r.above) > 0:
		r.refill()
	}
}

// sorted is a new list of all the messages, in their order.
func (r *rungs) sorted() []api.Message {
	var l []api.Message
	for i := range len(r.above) + 1 {
		l = append(l, r.at(i).list...)
	}
	return event.Sorted(l)
}
