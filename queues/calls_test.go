package queues

import (
	"math"
	"slices"
	"testing"

	"isochron/api"
	"isochron/calendar"
	"isochron/heap"
	"isochron/ladder"
	"isochron/pend"
)

// P6.1, P7.1, P8.1: New is empty; of an empty queue nothing is answered, and it can be used on.
func TestNew(t *testing.T) {
	each(t, func(t *testing.T, k kind) {
		q := k.empty(t)
		check(t, q)
		for range 3 {
			for _, got := range []answer{answered(q.First()), answered(q.Pop()), answered(q.Cut(0, 0)), answered(q.Cut(-1, 5))} {
				if got != (answer{e: api.ErrNone}) {
					t.Errorf("of an empty queue: %v", got)
				}
			}
		}
		push(t, q, at(1, 0))
		check(t, q, at(1, 0))
	})
}

// The document's example.
func TestExample(t *testing.T) {
	each(t, func(t *testing.T, k kind) {
		q := queueOf(t, k, at(5, 1), at(3, 2), at(4, 3))
		for i, c := range []struct {
			call func() (api.Message, api.Errno)
			want answer
		}{
			{q.Pop, answer{m: at(3, 2)}},
			{func() (api.Message, api.Errno) { return q.Cut(0, 1) }, answer{m: at(5, 1)}},
			{q.Pop, answer{m: at(4, 3)}},
			{q.Pop, answer{e: api.ErrNone}},
		} {
			if got := answered(c.call()); got != c.want {
				t.Errorf("call %d: %v, want %v", i, got, c.want)
			}
		}
	})
}

// P6.1, P7.1, P8.1: the first is by Time, then From, then Seq, then Uid, and by nothing else.
func TestTheFirstOfTwo(t *testing.T) {
	each(t, func(t *testing.T, k kind) {
		for _, c := range []struct {
			name string
			a, b api.Message // a is ahead of b
		}{
			{"a Time, all else against it", message(4, 9, 9, 9), message(5, 1, 1, 1)},
			{"a Time below 0", message(-1, 9, 9, 9), message(0, 1, 1, 1)},
			{"the least and the greatest Time", message(math.MinInt64, 0, 0, 0), message(math.MaxInt64, 0, 0, 1)},
			{"the last time and Never", message(api.MaxTime, 9, 9, 9), message(api.Never, 1, 1, 1)},
			{"From, all behind it against it", message(5, 1, 9, 9), message(5, 2, 1, 1)},
			{"From outside", message(5, api.Outside, 9, 9), message(5, 0, 1, 1)},
			{"From at its ends", message(5, math.MinInt, 0, 0), message(5, math.MaxInt, 0, 0)},
			{"Seq, Uid against it", message(5, 1, 3, 9), message(5, 1, 4, 8)},
			{"Seq at its ends", message(5, 1, math.MinInt, 9), message(5, 1, math.MaxInt, 8)},
			{"Uid alone", message(5, 1, 3, 8), message(5, 1, 3, 9)},
			{"Uid at its ends", message(5, 1, 3, math.MinInt), message(5, 1, 3, math.MaxInt)},
			{
				"what does not count, against it",
				api.Message{Key: api.Key{Time: 5}, To: 9, Value: 9, Uid: 1, Anti: true},
				api.Message{Key: api.Key{Time: 5}, To: -9, Value: -9, Uid: 2},
			},
		} {
			for _, l := range [][]api.Message{{c.a, c.b}, {c.b, c.a}} {
				q := queueOf(t, k, l...)
				if got := q.All(); !slices.Equal(got, []api.Message{c.a, c.b}) {
					t.Errorf("%s: All: %v", c.name, got)
				}
				for i, want := range []api.Message{c.a, c.b} {
					if first, got := answered(q.First()), answered(q.Pop()); first != (answer{m: want}) || got != first {
						t.Errorf("%s: the pop %d: %v, the first %v", c.name, i, got, first)
					}
				}
			}
		}
	})
}

// P6.1, P6.3, P7.1, P7.3, P8.1, P8.3: any message may be; at all edges what is popped comes in the order, in whichever it was pushed.
func TestAllEdges(t *testing.T) {
	each(t, func(t *testing.T, k kind) {
		var l []api.Message
		for _, time := range times() {
			for _, from := range numbers() {
				for i, seq := range numbers() {
					// Of one From each Uid must be another one.
					l = append(l, message(time, from, seq, math.MinInt+len(l)))
					l = append(l, message(time, from, numbers()[9-i], math.MaxInt-len(l)))
				}
			}
		}
		falling := slices.Clone(l)
		slices.Reverse(falling)
		for _, pushed := range [][]api.Message{l, falling, shuffled(l, 1009), shuffled(l, 37)} {
			q := queueOf(t, k, pushed...)
			check(t, q, l...)
			checkPops(t, q, l...)
		}
	})
}

// P7.1, P7.3: on both sides of each day's ends, below 0 and above, whatever the width, and of two days' messages none ahead of the other.
func TestAroundDays(t *testing.T) {
	each(t, func(t *testing.T, k kind) {
		var l []api.Message
		for _, width := range widths() {
			for _, end := range []int64{-2 * width, -width, 0, width, 2 * width} {
				for _, off := range []int64{-1, 0, 1} {
					l = append(l, at(end+off, len(l)))
				}
			}
		}
		falling := slices.Clone(l)
		slices.Reverse(falling)
		for _, pushed := range [][]api.Message{l, falling, shuffled(l, 7), shuffled(l, 1009)} {
			q := queueOf(t, k, pushed...)
			check(t, q, l...)
			for _, i := range []int{0, 4, 5, 6, 7, len(l) - 1} {
				if got := answered(q.Cut(0, i)); got != (answer{m: l[i]}) {
					t.Errorf("Cut of %v: %v", l[i], got)
				}
			}
			rest := slices.Concat(l[1:4], l[8:len(l)-1])
			check(t, q, rest...)
			checkPops(t, q, rest...)
		}
	})
}

// P8.1, P8.3: as many messages as a bottom holds, one fewer, one more, and several bottoms of them, at many Times and all at one; of the bottom and of what lies above it one is cut, some are popped, and others come ahead of the rest, between and behind it.
func TestAroundBottoms(t *testing.T) {
	each(t, func(t *testing.T, k kind) {
		for _, most := range bottoms()[:5] {
			for _, n := range []int{most - 1, most, most + 1, 2 * most, 2*most + 1, 3 * most} {
				for _, step := range []int64{0, 2} {
					var l []api.Message
					for i := range n {
						l = append(l, message(step*int64(i), 0, i, i))
					}
					falling := slices.Clone(l)
					slices.Reverse(falling)
					for _, pushed := range [][]api.Message{l, falling, shuffled(l, 10007)} {
						playAround(t, queueOf(t, k, pushed...), l)
					}
				}
			}
		}
	})
}

// playAround cuts, pops and pushes in a queue that has l, which rises.
func playAround(t *testing.T, q queue, l []api.Message) {
	t.Helper()
	p, n := &plain{l: slices.Clone(l)}, len(l)
	check(t, q, l...)
	for _, i := range []int{0, n / 4, n / 2, n - 2, n - 1} {
		if got, want := answered(q.Cut(0, i)), answered(p.take(p.find(0, i))); got != want {
			t.Fatalf("of %d, Cut of %d: %v, want %v", n, i, got, want)
		}
	}
	for _, want := range p.all()[:len(p.l)/3] {
		p.take(p.find(want.Key.From, want.Uid))
		if got := answered(q.Pop()); got != (answer{m: want}) {
			t.Fatalf("of %d: Pop: %v, want %v", n, got, want)
		}
	}
	for i, time := range []int64{-1, 0, 1, int64(n), int64(n) + 1, 2 * int64(n), math.MaxInt64} {
		for _, seq := range []int{-1, n / 2, n} {
			m := message(time, i%2, seq, n+20*i+seq%7)
			if got, want := q.Push(m), p.push(m); got != want {
				t.Fatalf("of %d, Push of %v: %d, want %d", n, m, got, want)
			}
		}
	}
	check(t, q, p.l...)
	checkPops(t, q, p.l...)
}

// P6.1, P7.1, P8.1: a message of a sending that is there is refused whatever else differs, and none of another sending is.
func TestTwice(t *testing.T) {
	each(t, func(t *testing.T, k kind) {
		m := api.Message{Key: api.Key{Time: 7, From: 3, Seq: 2}, To: 4, Value: 9, Uid: 6}
		for _, c := range []struct {
			name   string
			change func(*api.Message)
			want   api.Errno
		}{
			{"the same", func(*api.Message) {}, api.ErrTwice},
			{"its Time", func(x *api.Message) { x.Key.Time = 1 }, api.ErrTwice},
			{"its Time, below 0", func(x *api.Message) { x.Key.Time = math.MinInt64 }, api.ErrTwice},
			{"its Seq", func(x *api.Message) { x.Key.Seq = 8 }, api.ErrTwice},
			{"its To", func(x *api.Message) { x.To = 5 }, api.ErrTwice},
			{"its value", func(x *api.Message) { x.Value = -9 }, api.ErrTwice},
			{"its twin", func(x *api.Message) { x.Anti = true }, api.ErrTwice},
			{"all but From and Uid", func(x *api.Message) {
				*x = api.Message{Key: api.Key{From: 3}, Uid: 6, Anti: true}
			}, api.ErrTwice},
			{"its Uid", func(x *api.Message) { x.Uid = 7 }, api.OK},
			{"its Uid, below 0", func(x *api.Message) { x.Uid = -6 }, api.OK},
			{"its From", func(x *api.Message) { x.Key.From = 4 }, api.OK},
			{"its From, outside", func(x *api.Message) { x.Key.From = api.Outside }, api.OK},
			{"From and Uid", func(x *api.Message) { x.Key.From, x.Uid = 4, 7 }, api.OK},
			{"From and Uid, each the other's", func(x *api.Message) { x.Key.From, x.Uid = 6, 3 }, api.OK},
			{"From and Uid with the same sum", func(x *api.Message) { x.Key.From, x.Uid = 4, 5 }, api.OK},
			{"another at 2^32", func(x *api.Message) { x.Uid += 1 << 32 }, api.OK},
		} {
			x := m
			c.change(&x)
			for _, others := range [][]api.Message{{}, {at(3, 20), at(9, 21), at(7, 22)}} {
				want := append(slices.Clone(others), m)
				q := queueOf(t, k, want...)
				if e := q.Push(x); e != c.want {
					t.Errorf("%s differs: Push: %d, want %d", c.name, e, c.want)
				}
				if c.want == api.OK {
					want = append(want, x)
				}
				check(t, q, want...)
				checkPops(t, q, want...)
			}
		}
	})
}

// P6.1, P7.1, P8.1: a sending that was popped or cut may come again, as the same message or as another.
func TestAgainBehindItsEnd(t *testing.T) {
	each(t, func(t *testing.T, k kind) {
		m, others := message(7, 3, 2, 6), []api.Message{at(8, 1), at(9, 2), at(7, 3)}
		for _, again := range []api.Message{m, message(-1, 3, 0, 6), message(math.MaxInt64, 3, 8, 6)} {
			q := queueOf(t, k, append(slices.Clone(others), m)...)
			if got := answered(q.Cut(3, 6)); got != (answer{m: m}) {
				t.Errorf("Cut: %v", got)
			}
			push(t, q, again)
			check(t, q, append(slices.Clone(others), again)...)
			if e := q.Push(m); e != api.ErrTwice {
				t.Errorf("Push of what came again: %d", e)
			}
			q.Cut(3, 6)
			checkPops(t, q, others...)
			push(t, q, again)
			if got := answered(q.Pop()); got != (answer{m: again}) {
				t.Errorf("Pop: %v", got)
			}
			push(t, q, m)
			check(t, q, m)
		}
	})
}

// P6.1, P7.1, P8.1: what is refused, or not there, leaves the queue as it was; also what is Cut or Popped is gone just once.
func TestGoneOnce(t *testing.T) {
	each(t, func(t *testing.T, k kind) {
		l := []api.Message{at(5, 1), at(3, 2), at(4, 3)}
		q := queueOf(t, k, l...)
		if got := answered(q.Pop()); got != (answer{m: at(3, 2)}) {
			t.Errorf("Pop: %v", got)
		}
		if got := answered(q.Cut(0, 2)); got != (answer{e: api.ErrNone}) {
			t.Errorf("Cut of what was popped: %v", got)
		}
		check(t, q, l[0], l[2])
		if got := answered(q.Cut(0, 3)); got != (answer{m: at(4, 3)}) {
			t.Errorf("Cut: %v", got)
		}
		if got := answered(q.Cut(0, 3)); got != (answer{e: api.ErrNone}) {
			t.Errorf("Cut of what was cut: %v", got)
		}
		checkPops(t, q, l[0])
	})
}

// P6.1, P7.1, P8.1: Cut of what is not there.
func TestCutOfNone(t *testing.T) {
	each(t, func(t *testing.T, k kind) {
		l := []api.Message{message(5, 3, 0, 6), message(4, api.Outside, 1, 2), message(6, 2, 2, 2), message(5, 0, 3, 0)}
		q := queueOf(t, k, l...)
		for _, c := range []struct{ from, uid int }{
			{3, 5}, {3, 7}, {2, 6}, {4, 6}, {6, 3}, {3, -6}, {-3, 6},
			{api.Outside, 0}, {0, api.Outside}, {0, 2}, {2, 0}, {5, 6}, {3, 1<<32 + 6}, {1<<32 + 3, 6},
			{math.MinInt, math.MinInt}, {math.MaxInt, math.MaxInt}, {math.MinInt, 6}, {3, math.MaxInt},
		} {
			if got := answered(q.Cut(c.from, c.uid)); got != (answer{e: api.ErrNone}) {
				t.Errorf("Cut(%d, %d): %v", c.from, c.uid, got)
			}
			check(t, q, l...)
		}
		checkPops(t, q, l...)
	})
}

// P6.1, P7.1, P8.1: Cut of the first, the last, each between, and the only one, at queues of all sizes up to 40 that were pushed in several orders.
func TestCutOfEach(t *testing.T) {
	each(t, func(t *testing.T, k kind) {
		for n := 1; n <= 40; n++ {
			var l []api.Message
			for i := range n {
				l = append(l, message(int64(i/2), i%3, -i, i))
			}
			falling := slices.Clone(l)
			slices.Reverse(falling)
			for _, pushed := range [][]api.Message{l, falling, shuffled(l, 41), shuffled(l, 1009)} {
				for i, m := range pushed {
					q := queueOf(t, k, pushed...)
					if got := answered(q.Cut(m.Key.From, m.Uid)); got != (answer{m: m}) {
						t.Fatalf("of %d, Cut of %v: %v", n, m, got)
					}
					rest := slices.Delete(slices.Clone(pushed), i, i+1)
					check(t, q, rest...)
					checkPops(t, q, rest...)
				}
			}
		}
	})
}

// P6.1: where the gap of a heap is filled by one from another branch, that one may have to go up.
func TestCutAcrossBranches(t *testing.T) {
	each(t, func(t *testing.T, k kind) {
		var l []api.Message
		for i, time := range []int64{0, 100, 1, 101, 102, 2, 3, 103, 104, 105, 106, 4, 5, 6, 7} {
			l = append(l, at(time, i))
		}
		for uid := range l {
			q := queueOf(t, k, l...)
			rest := slices.Delete(slices.Clone(l), uid, uid+1)
			if got := answered(q.Cut(0, uid)); got != (answer{m: l[uid]}) {
				t.Errorf("Cut of %d: %v", uid, got)
			}
			checkPops(t, q, rest...)
		}
	})
}

// full is a queue of MaxQueue messages, with what is in it; their times are in no order, some the same.
func full(t *testing.T, k kind) (queue, []api.Message) {
	t.Helper()
	var l []api.Message
	for i := range 16384 {
		l = append(l, message(int64(i*7919%16384/3), i%5-1, i%7, i))
	}
	return queueOf(t, k, l...), l
}

// P6.1, P7.1, P8.1: MaxQueue messages go in, one more does not; ErrTwice is told ahead of ErrFull; behind a Pop or a Cut there is room for one.
func TestFull(t *testing.T) {
	each(t, func(t *testing.T, k kind) {
		q, l := full(t, k)
		for _, m := range []api.Message{message(-5, 0, 0, 16384), message(math.MaxInt64, 15, 0, -1), {}} {
			if m == (api.Message{}) {
				m = api.Message{Key: api.Key{From: 1}, Uid: 5}
			}
			if e := q.Push(m); e != api.ErrFull {
				t.Errorf("Push of one more: %d", e)
			}
		}
		for _, m := range []api.Message{l[0], l[16383], {Key: api.Key{Time: -9, From: l[5].Key.From}, Uid: 5}} {
			if e := q.Push(m); e != api.ErrTwice {
				t.Errorf("Push of a sending that is there: %d", e)
			}
		}
		check(t, q, l...)

		more := message(1, 2, 3, 16384)
		first := (&plain{l: l}).foremost()
		if got := answered(q.Pop()); got != (answer{m: l[first]}) {
			t.Errorf("Pop: %v", got)
		}
		l[first] = more
		push(t, q, more)
		if e := q.Push(message(1, 2, 3, 16385)); e != api.ErrFull {
			t.Errorf("Push behind a Pop and a Push: %d", e)
		}
		if got := answered(q.Cut(l[777].Key.From, 777)); got != (answer{m: l[777]}) {
			t.Errorf("Cut: %v", got)
		}
		l[777] = message(1, 2, 3, 16385)
		push(t, q, l[777])
		if e := q.Push(message(1, 2, 3, 16386)); e != api.ErrFull {
			t.Errorf("Push behind a Cut and a Push: %d", e)
		}
		check(t, q, l...)
	})
}

// P6.3, P7.3, P8.3: of MaxQueue messages each comes once, in the order, however they were pushed.
func TestPopsOfMany(t *testing.T) {
	each(t, func(t *testing.T, k kind) {
		_, l := full(t, k)
		rising := (&plain{l: l}).all()
		falling := slices.Clone(rising)
		slices.Reverse(falling)
		for _, pushed := range [][]api.Message{l, rising, falling, shuffled(rising, 5003)} {
			q := queueOf(t, k, pushed...)
			for i, want := range rising {
				if got := answered(q.Pop()); got != (answer{m: want}) {
					t.Fatalf("the pop %d: %v, want %v", i, got, want)
				}
			}
			check(t, q)
		}
	})
}

// P6.1, P7.1, P8.1 and P4: All is in the order of messages, leaves the queue as it was, and is memory of its own.
func TestAll(t *testing.T) {
	each(t, func(t *testing.T, k kind) {
		var l []api.Message
		for i := range 50 {
			l = append(l, message(int64(i*13%50/2), i%4, -i, i))
		}
		q := queueOf(t, k, l...)
		want := (&plain{l: l}).all()
		one, two := q.All(), q.All()
		clear(one)
		one = append(one[:0], make([]api.Message, cap(one))...)
		if !slices.Equal(two, want) {
			t.Error("two lists share memory")
		}
		check(t, q, l...)
		q.Pop()
		q.Cut(l[9].Key.From, 9)
		push(t, q, at(-8, 70))
		if !slices.Equal(two, want) {
			t.Error("a list changed with its queue")
		}
		three := append(q.All(), at(1, 90))
		clear(three)
		rest := slices.DeleteFunc(slices.Clone(want[1:]), func(m api.Message) bool { return m == l[9] })
		checkPops(t, q, append(rest, at(-8, 70))...)
	})
}

// P4: what is pushed is kept as it was, whatever becomes of the caller's.
func TestWhatIsHandedInIsKept(t *testing.T) {
	each(t, func(t *testing.T, k kind) {
		l := []api.Message{at(5, 1), at(3, 2), at(4, 3)}
		before := slices.Clone(l)
		q := k.empty(t)
		for i := range l {
			q.Push(l[i])
		}
		if !slices.Equal(l, before) {
			t.Errorf("what was handed in: %v", l)
		}
		clear(l)
		checkPops(t, q, before...)
	})
}

// P6.2, P7.2, P8.2, P9.2: a nil queue, and one that no call made.
func TestQueuesThatNoCallMade(t *testing.T) {
	for i, q := range []queue{(*heap.Heap)(nil), &heap.Heap{}, (*calendar.Calendar)(nil), &calendar.Calendar{}, (*ladder.Ladder)(nil), &ladder.Ladder{}, (*pend.Pend)(nil), &pend.Pend{}} {
		for range 2 {
			for _, m := range []api.Message{{}, at(5, 1), at(-1, 2)} {
				if e := q.Push(m); e != api.ErrZero {
					t.Errorf("queue %d: Push: %d", i, e)
				}
			}
			for _, got := range []answer{answered(q.First()), answered(q.Pop()), answered(q.Cut(0, 1)), answered(q.Cut(math.MinInt, math.MaxInt))} {
				if got != (answer{e: api.ErrZero}) {
					t.Errorf("queue %d: %v, want ErrZero", i, got)
				}
			}
			if len(q.All()) != 0 || q.Len() != 0 {
				t.Errorf("queue %d: All: %v, Len: %d", i, q.All(), q.Len())
			}
		}
	}
}

// P5: queues know nothing of one another.
func TestTwoQueues(t *testing.T) {
	each(t, func(t *testing.T, k kind) {
		a, b := k.empty(t), k.empty(t)
		push(t, a, at(5, 1), at(3, 2))
		check(t, b)
		push(t, b, at(9, 1), at(1, 3))
		a.Pop()
		check(t, b, at(9, 1), at(1, 3))
		b.Cut(0, 1)
		check(t, a, at(5, 1))
		checkPops(t, b, at(1, 3))
		checkPops(t, a, at(5, 1))
	})
}
