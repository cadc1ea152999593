package queues

import (
	"math"
	"slices"
	"strconv"
	"testing"

	"isochron/api"
	"isochron/calendar"
	"isochron/heap"
	"isochron/ladder"
	"isochron/pend"
)

// queue is what chapters 6, 7 and 8 promise alike, and chapter 9 (P9.1, P9.3) of whichever of the three it is.
type queue interface {
	Push(m api.Message) api.Errno
	First() (api.Message, api.Errno)
	Pop() (api.Message, api.Errno)
	Cut(from int, uid int) (api.Message, api.Errno)
	All() []api.Message
	Len() int
}

// kind is a way to make an empty queue.
type kind struct {
	name  string
	empty func(t *testing.T) queue
}

func heapKind() kind {
	return kind{name: "heap", empty: func(*testing.T) queue { return heap.New() }}
}

func calendarKind(width int64) kind {
	return kind{
		name: "calendar " + strconv.FormatInt(width, 10),
		empty: func(t *testing.T) queue {
			t.Helper()
			q, e := calendar.New(width)
			if q == nil || e != api.OK {
				t.Fatalf("New(%d): %v, %d", width, q, e)
			}
			return q
		},
	}
}

// widths are the ends of what a width may be, one that divides none of the others' days, and some between.
func widths() []int64 {
	return []int64{1, 2, 3, 16, 1000, 1 << 40, api.MaxTime, math.MaxInt64}
}

func ladderKind(most int) kind {
	return kind{
		name: "ladder " + strconv.Itoa(most),
		empty: func(t *testing.T) queue {
			t.Helper()
			q, e := ladder.New(most)
			if q == nil || e != api.OK {
				t.Fatalf("New(%d): %v, %d", most, q, e)
			}
			return q
		},
	}
}

// bottoms are the ends of what a bottom may hold, and some between.
func bottoms() []int {
	return []int{1, 2, 3, 32, 1000, 16384}
}

func pendKind(number int) kind {
	return kind{name: "pend " + strconv.Itoa(number), empty: func(t *testing.T) queue { return newPend(t, number) }}
}

func newPend(t *testing.T, number int) *pend.Pend {
	t.Helper()
	p, e := pend.New(number)
	if p == nil || e != api.OK {
		t.Fatalf("New(%d): %v, %d", number, p, e)
	}
	return p
}

func kinds() []kind {
	l := []kind{heapKind(), alwaysTurnedKind(), turnedKind()}
	for _, width := range widths() {
		l = append(l, calendarKind(width))
	}
	for _, most := range bottoms() {
		l = append(l, ladderKind(most))
	}
	for _, number := range pendKinds() {
		l = append(l, pendKind(number))
	}
	return l
}

// each tries a test on every kind.
func each(t *testing.T, try func(t *testing.T, k kind)) {
	t.Helper()
	t.Parallel()
	for _, k := range kinds() {
		t.Run(k.name, func(t *testing.T) {
			t.Parallel()
			try(t, k)
		})
	}
}

// at is a message of process 0 at that time; uid tells its sending from others.
func at(time int64, uid int) api.Message {
	return api.Message{Key: api.Key{Time: time}, Uid: uid}
}

// message is one with all that counts in the order; what does not count hangs on it too, so that no two that differ look the same.
func message(time int64, from, seq, uid int) api.Message {
	return api.Message{
		Key:   api.Key{Time: time, From: from, Seq: seq},
		To:    (uid & 7) + (seq & 7),
		Value: time ^ int64(uid),
		Uid:   uid,
		Anti:  (seq+uid)%2 != 0,
	}
}

// times and numbers are the ends of their types and those around which the document changes what is answered elsewhere; they rise.
func times() []int64 {
	return []int64{math.MinInt64, math.MinInt64 + 1, -api.Never, -1, 0, 1, 15, 16, 1 << 32, api.MaxTime, api.Never, math.MaxInt64 - 1, math.MaxInt64}
}

func numbers() []int {
	return []int{math.MinInt, -16, -2, api.Outside, 0, 1, 15, 16, 1 << 40, math.MaxInt}
}

// answer is what a call that may be refused tells.
type answer struct {
	m api.Message
	e api.Errno
}

func answered(m api.Message, e api.Errno) answer { return answer{m, e} }

// check holds what q tells of itself against the messages that should be there, and does so twice, as telling changes nothing.
func check(t *testing.T, q queue, want ...api.Message) {
	t.Helper()
	p := &plain{l: slices.Clone(want)}
	for range 2 {
		if q.Len() != len(want) {
			t.Fatalf("Len: %d, want %d", q.Len(), len(want))
		}
		if got := q.All(); !slices.Equal(got, p.all()) {
			t.Fatalf("All: %v, want %v", got, p.all())
		}
		if got, first := answered(q.First()), answered(p.at(p.foremost())); got != first {
			t.Fatalf("First: %v, want %v", got, first)
		}
	}
}

// checkPops takes all out of q, which must be what is wanted, each once, in the order of messages.
func checkPops(t *testing.T, q queue, want ...api.Message) {
	t.Helper()
	p := &plain{l: slices.Clone(want)}
	for i, m := range p.all() {
		if first, got := answered(q.First()), answered(q.Pop()); first != (answer{m: m}) || got != first {
			t.Fatalf("the pop %d: %v, the first %v, want %v", i, got, first, m)
		}
		if q.Len() != len(want)-1-i {
			t.Fatalf("behind the pop %d: Len %d", i, q.Len())
		}
	}
	check(t, q)
	if got := answered(q.Pop()); got != (answer{e: api.ErrNone}) {
		t.Fatalf("Pop of what is empty: %v", got)
	}
}

func push(t *testing.T, q queue, l ...api.Message) {
	t.Helper()
	for _, m := range l {
		if e := q.Push(m); e != api.OK {
			t.Fatalf("Push(%v): %d", m, e)
		}
	}
}

// queueOf is a queue into which l was pushed, one by one.
func queueOf(t *testing.T, k kind, l ...api.Message) queue {
	t.Helper()
	q := k.empty(t)
	push(t, q, l...)
	return q
}

// shuffled is l in another order, the same one each time; step must have no divisor in common with len(l).
func shuffled(l []api.Message, step int) []api.Message {
	out := make([]api.Message, len(l))
	for i := range l {
		out[i] = l[i*step%len(l)]
	}
	return out
}
