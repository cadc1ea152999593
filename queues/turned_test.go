package queues

import (
	"math"
	"slices"
	"testing"

	"isochron/api"
	"isochron/pend"
)

func pendKinds() []int { return []int{api.QHeap, api.QCalendar, api.QLadder} }

// schedule tells, of each call from 1 on, to which kind a pend is turned ahead of it, if to any.
type schedule func(call int) (to int, now bool)

// always is a turn ahead of each call, from each kind to each, to its own as well.
func always() schedule {
	round := [9]int{api.QHeap, api.QHeap, api.QCalendar, api.QHeap, api.QLadder, api.QCalendar, api.QCalendar, api.QLadder, api.QLadder}
	return func(call int) (int, bool) { return round[call%len(round)], true }
}

// byChance is a turn ahead of some calls, now and then to what is no kind.
func byChance(seed uint64) schedule {
	c := &chance{seed: seed}
	to := append(pendKinds(), api.QHeap, api.QCalendar, api.QLadder, -1, 3, math.MinInt, math.MaxInt)
	return func(int) (int, bool) { return to[c.below(len(to))], c.below(5) == 0 }
}

// turned is a pend that is turned ahead of its calls; beside it stands one of each kind that is never turned, and all must answer the same (P9.3).
type turned struct {
	t     *testing.T
	p     *pend.Pend
	kind  int
	still []*pend.Pend
	next  schedule
	calls int
}

func newTurned(t *testing.T, next schedule) queue {
	t.Helper()
	q := &turned{t: t, p: newPend(t, api.QLadder), kind: api.QLadder, next: next}
	for _, number := range pendKinds() {
		q.still = append(q.still, newPend(t, number))
	}
	return q
}

func alwaysTurnedKind() kind {
	return kind{name: "pend that is always turned", empty: func(t *testing.T) queue { return newTurned(t, always()) }}
}

// turnedKind makes queues of which each is turned by another chance.
func turnedKind() kind {
	seed := uint64(0)
	return kind{name: "pend turned by chance", empty: func(t *testing.T) queue {
		seed++
		return newTurned(t, byChance(seed))
	}}
}

// turn turns q, if it is the time. The more messages there are the longer a turn takes, and the more seldom it is the time.
func (q *turned) turn() {
	q.t.Helper()
	q.calls++
	n := q.p.Len()
	if q.calls%min(1+n*n/800, 2003) != 0 {
		return
	}
	if to, now := q.next(q.calls); now {
		turn(q.t, q.p, to)
		q.kind = q.p.Kind()
	}
}

// turn turns p, and looks whether it has changed in nothing but its kind; not in that either, if there is no such kind.
func turn(t *testing.T, p *pend.Pend, to int) {
	t.Helper()
	from, l, first := p.Kind(), p.All(), answered(p.First())
	kind, want := to, api.OK
	if !slices.Contains(pendKinds(), to) {
		kind, want = from, api.ErrArg
	}
	if e := p.Turn(to); e != want {
		t.Fatalf("from %d, Turn(%d): %d, want %d", from, to, e, want)
	}
	if p.Kind() != kind || p.Len() != len(l) {
		t.Fatalf("from %d, Turn(%d): kind %d, Len %d, want %d, %d", from, to, p.Kind(), p.Len(), kind, len(l))
	}
	if got := p.All(); !slices.Equal(got, l) {
		t.Fatalf("from %d, Turn(%d): All: %v, want %v", from, to, got, l)
	}
	if got := answered(p.First()); got != first {
		t.Fatalf("from %d, Turn(%d): First: %v, want %v", from, to, got, first)
	}
}

// told is all that a call of a queue may tell.
type told struct {
	answer
	l []api.Message
	n int
}

// call makes one call of q and of those that are never turned, and holds what they tell against each other.
func (q *turned) call(once func(p *pend.Pend) told) told {
	q.t.Helper()
	q.turn()
	got := once(q.p)
	if q.p.Kind() != q.kind {
		q.t.Fatalf("behind a call the kind is %d, was %d", q.p.Kind(), q.kind)
	}
	for _, p := range q.still {
		if want := once(p); got.answer != want.answer || got.n != want.n || !slices.Equal(got.l, want.l) {
			q.t.Fatalf("turned, of the kind %d: %v; never turned, of the kind %d: %v", q.kind, got, p.Kind(), want)
		}
	}
	return got
}

func (q *turned) Push(m api.Message) api.Errno {
	q.t.Helper()
	return q.call(func(p *pend.Pend) told { return told{answer: answer{e: p.Push(m)}} }).e
}

func (q *turned) First() (api.Message, api.Errno) {
	q.t.Helper()
	x := q.call(func(p *pend.Pend) told { return told{answer: answered(p.First())} })
	return x.m, x.e
}

func (q *turned) Pop() (api.Message, api.Errno) {
	q.t.Helper()
	x := q.call(func(p *pend.Pend) told { return told{answer: answered(p.Pop())} })
	return x.m, x.e
}

func (q *turned) Cut(from int, uid int) (api.Message, api.Errno) {
	q.t.Helper()
	x := q.call(func(p *pend.Pend) told { return told{answer: answered(p.Cut(from, uid))} })
	return x.m, x.e
}

func (q *turned) All() []api.Message {
	q.t.Helper()
	return q.call(func(p *pend.Pend) told { return told{l: p.All()} }).l
}

func (q *turned) Len() int {
	q.t.Helper()
	return q.call(func(p *pend.Pend) told { return told{n: p.Len()} }).n
}
