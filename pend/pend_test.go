package pend

import (
	"math"
	"reflect"
	"slices"
	"testing"

	"isochron/api"
	"isochron/calendar"
	"isochron/heap"
	"isochron/ladder"
)

// What a queue answers, of whichever kind and however it is turned, package queues tests.

func kinds() []int { return []int{api.QHeap, api.QCalendar, api.QLadder} }

// wrong are numbers that are no kinds, on both sides of those that are and at the ends of their type.
func wrong() []int {
	return []int{math.MinInt, math.MinInt + 1, -1<<32 + 1, -1 << 32, -16, -3, -2, -1, 3, 4, 16, 32, 1 << 32, 1<<32 + 1, 1<<32 + 2, math.MaxInt - 1, math.MaxInt}
}

func at(time int64, uid int) api.Message {
	return api.Message{Key: api.Key{Time: time}, Uid: uid}
}

// made is a queue of that kind, with l.
func made(t *testing.T, kind int, l ...api.Message) *Pend {
	t.Helper()
	p, e := New(kind)
	if p == nil || e != api.OK {
		t.Fatalf("New(%d): %v, %d", kind, p, e)
	}
	for _, m := range l {
		if e := p.Push(m); e != api.OK {
			t.Fatalf("Push(%v): %d", m, e)
		}
	}
	return p
}

// check holds what p tells of itself against its kind and its messages, which are in their order.
func check(t *testing.T, p *Pend, kind int, l ...api.Message) {
	t.Helper()
	if p.Kind() != kind || p.Len() != len(l) || !slices.Equal(p.All(), l) {
		t.Errorf("kind %d, %d messages, %v; want kind %d, %d, %v", p.Kind(), p.Len(), p.All(), kind, len(l), l)
	}
}

// P9.1: the three kinds' numbers make an empty queue of that kind.
func TestNew(t *testing.T) {
	for kind, number := range kinds() {
		if kind != number {
			t.Errorf("the kind %d has the number %d", kind, number)
		}
		check(t, made(t, kind), kind)
	}
}

// P9.1: no other number is a kind; there is no queue beside the refusal.
func TestNewRefused(t *testing.T) {
	for _, kind := range wrong() {
		if p, e := New(kind); p != nil || e != 1 {
			t.Errorf("New(%d): %v, %d", kind, p, e)
		}
	}
}

// P9.1: a Turn to what is no kind is refused; the kind and the messages are as they were, and the queue can be used on.
func TestTurnRefused(t *testing.T) {
	for _, kind := range kinds() {
		for _, l := range [][]api.Message{{}, {at(5, 1)}, {at(-3, 2), at(5, 1), at(5, 3)}} {
			p := made(t, kind, l...)
			for _, to := range wrong() {
				before := p.queue
				if e := p.Turn(to); e != 1 {
					t.Errorf("from %d: Turn(%d): %d", kind, to, e)
				}
				if p.queue != before {
					t.Errorf("from %d: Turn(%d): another queue", kind, to)
				}
				check(t, p, kind, l...)
			}
			if e := p.Push(at(9, 9)); e != api.OK {
				t.Errorf("Push: %d", e)
			}
			check(t, p, kind, append(slices.Clone(l), at(9, 9))...)
			for _, want := range append(slices.Clone(l), at(9, 9)) {
				if m, e := p.Pop(); m != want || e != api.OK {
					t.Errorf("Pop: %v, %d, want %v", m, e, want)
				}
			}
		}
	}
}

// The chapter's words: a calendar has the width 16, a ladder a bottom of 32, whether it is made or turned to.
func TestHowTheKindsAreMade(t *testing.T) {
	days, _ := calendar.New(16)
	rungs, _ := ladder.New(32)
	for _, from := range kinds() {
		for to, like := range []any{heap.New(), days, rungs} {
			p := made(t, from)
			if e := p.Turn(to); e != api.OK {
				t.Errorf("from %d: Turn(%d): %d", from, to, e)
			}
			for _, q := range []queue{p.queue, made(t, to).queue} {
				if reflect.TypeOf(q) != reflect.TypeOf(like) {
					t.Errorf("the kind %d is a %T", to, q)
				}
				// A heap has a function in a field, and no two functions are the same.
				if to != api.QHeap && !reflect.DeepEqual(q, like) {
					t.Errorf("the kind %d is %v, want %v", to, q, like)
				}
			}
		}
	}
}

// The document's example.
func TestExample(t *testing.T) {
	p := made(t, api.QHeap, at(5, 0), at(3, 1))
	if e := p.Turn(api.QLadder); e != api.OK {
		t.Errorf("Turn: %d", e)
	}
	if m, e := p.Pop(); m != at(3, 1) || e != api.OK {
		t.Errorf("Pop: %v, %d", m, e)
	}
	check(t, p, api.QLadder, at(5, 0))
}

// P9.2: of a nil queue, and of one that no call made, nothing is told but ErrZero, whatever is asked for; none becomes one that a call made.
func TestQueuesThatNoCallMade(t *testing.T) {
	for i, p := range []*Pend{nil, {}} {
		for _, kind := range append(kinds(), wrong()...) {
			if e := p.Turn(kind); e != 7 {
				t.Errorf("queue %d: Turn(%d): %d", i, kind, e)
			}
			for _, m := range []api.Message{{}, at(5, 1), at(math.MinInt64, -1)} {
				if e := p.Push(m); e != 7 {
					t.Errorf("queue %d: Push: %d", i, e)
				}
			}
			if m, e := p.First(); m != (api.Message{}) || e != 7 {
				t.Errorf("queue %d: First: %v, %d", i, m, e)
			}
			if m, e := p.Pop(); m != (api.Message{}) || e != 7 {
				t.Errorf("queue %d: Pop: %v, %d", i, m, e)
			}
			for _, uid := range []int{0, 1, math.MinInt, math.MaxInt} {
				if m, e := p.Cut(uid, uid); m != (api.Message{}) || e != 7 {
					t.Errorf("queue %d: Cut: %v, %d", i, m, e)
				}
			}
			check(t, p, 0)
		}
	}
}
