package queues

import (
	"math"
	"slices"
	"strconv"
	"testing"

	"isochron/api"
	"isochron/pend"
)

// eachTurn tries a test on a turn from each kind to each, to its own as well.
func eachTurn(t *testing.T, try func(t *testing.T, from, to int)) {
	t.Helper()
	t.Parallel()
	for _, from := range pendKinds() {
		for _, to := range pendKinds() {
			t.Run(strconv.Itoa(from)+" to "+strconv.Itoa(to), func(t *testing.T) {
				t.Parallel()
				try(t, from, to)
			})
		}
	}
}

// pendOf is a pend of that kind into which l was pushed, one by one.
func pendOf(t *testing.T, number int, l ...api.Message) *pend.Pend {
	t.Helper()
	p := newPend(t, number)
	push(t, p, l...)
	return p
}

// manyOfOneTime are messages that only what stands behind the Time tells apart in the order.
func manyOfOneTime(n int) []api.Message {
	var l []api.Message
	for i := range n {
		l = append(l, message(7, i*5%4-1, i*7%9, i))
	}
	return l
}

// around are messages at those times and on both sides of each.
func around(times ...int64) []api.Message {
	var l []api.Message
	for _, time := range times {
		for _, off := range []int64{1, 0, -1} {
			l = append(l, message(time+off, len(l)%3, -len(l), len(l)))
		}
	}
	return l
}

// falling are n messages, the last one pushed first.
func falling(n int) []api.Message {
	var l []api.Message
	for i := range n {
		l = append(l, message(int64(n-i), 0, i, i))
	}
	return l
}

// edges are messages at the ends of all numbers that count in the order.
func edges() []api.Message {
	var l []api.Message
	for _, time := range times() {
		for i, from := range numbers() {
			l = append(l, message(time, from, numbers()[9-i], math.MinInt+len(l)), message(time, from, numbers()[i], math.MaxInt-len(l)))
		}
	}
	return shuffled(l, 77)
}

// fillings are what queues are turned with: nothing, one, those of one Time, those around the ends of a calendar's days and a ladder's bottom, those at the ends of their numbers.
func fillings() [][]api.Message {
	return [][]api.Message{
		{},
		{{}},
		{message(math.MinInt64, 3, 2, 6)},
		{message(math.MaxInt64, math.MinInt, math.MaxInt, math.MinInt)},
		{at(5, 1), at(3, 2), at(4, 3)},
		manyOfOneTime(2), manyOfOneTime(33), manyOfOneTime(400),
		falling(15), falling(16), falling(17), falling(31), falling(32), falling(33), falling(64), falling(65), falling(200),
		around(-33, -32, -16, 0, 16, 32, 1<<40, api.MaxTime, api.Never),
		edges(),
	}
}

// P9.1, P9.3: behind a turn the same messages are there, and each comes once, in the order of messages; what is added behind it comes among them.
func TestTurn(t *testing.T) {
	eachTurn(t, func(t *testing.T, from, to int) {
		for _, l := range fillings() {
			before := slices.Clone(l)
			p := pendOf(t, from, l...)
			turn(t, p, to)
			check(t, p, l...)
			checkPops(t, p, l...)

			p = pendOf(t, from, l...)
			turn(t, p, to)
			more := []api.Message{message(-1, 2, 5, 1000), message(7, 0, 0, 1001), message(math.MaxInt64, 15, 0, 1002), message(math.MinInt64, 0, 0, 1003)}
			push(t, p, more...)
			check(t, p, slices.Concat(l, more)...)
			checkPops(t, p, slices.Concat(l, more)...)
			if !slices.Equal(l, before) {
				t.Errorf("what was handed in: %v, want %v", l, before)
			}
		}
	})
}

// P9.1, P9.3: turns one behind another, some of the messages gone in between.
func TestTurnOnAndOn(t *testing.T) {
	eachTurn(t, func(t *testing.T, from, to int) {
		for _, l := range fillings() {
			p := pendOf(t, from, l...)
			want := (&plain{l: l}).all()
			for i := range 18 {
				turn(t, p, []int{to, from, i % 3, -1, i * 2 % 3}[i%5])
				check(t, p, want...)
				for range len(want) / 4 {
					if got := answered(p.Pop()); got != (answer{m: want[0]}) {
						t.Fatalf("Pop: %v, want %v", got, want[0])
					}
					want = want[1:]
				}
			}
			checkPops(t, p, want...)
		}
	})
}

// P9.1: behind a turn a message of each sending that is there is refused, also in another place of the order; it is cut once, and then it may come again.
func TestTwiceAndCutBehindATurn(t *testing.T) {
	eachTurn(t, func(t *testing.T, from, to int) {
		for _, l := range fillings() {
			p := pendOf(t, from, l...)
			turn(t, p, to)
			for i, m := range l {
				other := message(int64(i), m.Key.From, i, m.Uid)
				if e := p.Push(m); e != api.ErrTwice {
					t.Fatalf("Push of what is there: %d", e)
				}
				if e := p.Push(other); e != api.ErrTwice {
					t.Fatalf("Push of the same sending: %d", e)
				}
			}
			check(t, p, l...)
			for _, m := range l {
				if got := answered(p.Cut(m.Key.From, m.Uid)); got != (answer{m: m}) {
					t.Fatalf("Cut: %v, want %v", got, m)
				}
				if got := answered(p.Cut(m.Key.From, m.Uid)); got != (answer{e: api.ErrNone}) {
					t.Fatalf("Cut of what was cut: %v", got)
				}
			}
			check(t, p)
			push(t, p, l...)
			checkPops(t, p, l...)
		}
	})
}

// P9.1: Cut of what is not there, behind a turn.
func TestCutOfNoneBehindATurn(t *testing.T) {
	eachTurn(t, func(t *testing.T, from, to int) {
		l := []api.Message{message(5, 3, 0, 6), message(4, api.Outside, 1, 2), message(6, 2, 2, 2), message(5, 0, 3, 0)}
		p := pendOf(t, from, append(slices.Clone(l), at(1, 40), at(9, 41))...)
		p.Pop()
		p.Cut(0, 41)
		turn(t, p, to)
		for _, c := range []struct{ from, uid int }{
			{0, 40}, {0, 41}, {3, 5}, {2, 6}, {6, 3}, {-3, 6}, {api.Outside, 0}, {0, 2}, {3, 1<<32 + 6},
			{math.MinInt, math.MinInt}, {math.MaxInt, math.MaxInt},
		} {
			if got := answered(p.Cut(c.from, c.uid)); got != (answer{e: api.ErrNone}) {
				t.Errorf("Cut(%d, %d): %v", c.from, c.uid, got)
			}
		}
		check(t, p, l...)
		checkPops(t, p, l...)
	})
}

// P9.1: a sending that is popped or cut may come again, as the same message or as another, with a turn ahead of its end, behind it, or behind its coming again.
func TestAgainBehindATurn(t *testing.T) {
	eachTurn(t, func(t *testing.T, from, to int) {
		m, others := message(7, 3, 2, 6), []api.Message{at(8, 1), at(9, 2), at(7, 3)}
		popped := func(p *pend.Pend) answer {
			if first := answered(p.Pop()); first != (answer{m: at(7, 3)}) {
				t.Errorf("Pop: %v", first)
			}
			got := answered(p.Pop())
			push(t, p, at(7, 3))
			return got
		}
		cut := func(p *pend.Pend) answer { return answered(p.Cut(3, 6)) }
		for _, end := range []func(p *pend.Pend) answer{popped, cut} {
			for _, again := range []api.Message{m, message(-1, 3, 0, 6), message(math.MaxInt64, 3, 8, 6)} {
				for when := range 3 {
					p := pendOf(t, from, append(slices.Clone(others), m)...)
					for i, call := range []func(){
						func() {
							if got := end(p); got != (answer{m: m}) {
								t.Errorf("the end of %v: %v", m, got)
							}
						},
						func() { push(t, p, again) },
						func() {},
					} {
						if i == when {
							turn(t, p, to)
						}
						call()
					}
					if e := p.Push(m); e != api.ErrTwice {
						t.Errorf("Push of what came again: %d", e)
					}
					check(t, p, append(slices.Clone(others), again)...)
					checkPops(t, p, append(slices.Clone(others), again)...)
				}
			}
		}
	})
}

// P9.1, P9.3: MaxQueue messages, in any order and of one Time, go through a turn; one more is refused behind it, ErrTwice is told ahead of ErrFull, and behind a Pop or a Cut there is room for one.
func TestTurnOfMany(t *testing.T) {
	eachTurn(t, func(t *testing.T, from, to int) {
		_, some := full(t, pendKind(from))
		for _, l := range [][]api.Message{some, manyOfOneTime(16384)} {
			p := pendOf(t, from, l...)
			rising := p.All()
			turn(t, p, to)
			check(t, p, l...)
			more, sure := message(-5, 0, 0, 16384), l[777]
			if e := p.Push(more); e != api.ErrFull {
				t.Errorf("Push of one more: %d", e)
			}
			if e := p.Push(message(-5, sure.Key.From, 0, sure.Uid)); e != api.ErrTwice {
				t.Errorf("Push of a sending that is there: %d", e)
			}
			for _, end := range []func() (api.Message, api.Errno){p.Pop, func() (api.Message, api.Errno) { return p.Cut(0, 16384) }} {
				if _, e := end(); e != api.OK {
					t.Errorf("Pop or Cut: %d", e)
				}
				push(t, p, more)
				turn(t, p, from)
				if e := p.Push(message(-5, 0, 0, 16385)); e != api.ErrFull {
					t.Errorf("Push behind a Push: %d", e)
				}
				turn(t, p, to)
			}
			for i, want := range append([]api.Message{more}, rising[1:]...) {
				if got := answered(p.Pop()); got != (answer{m: want}) {
					t.Fatalf("the pop %d: %v, want %v", i, got, want)
				}
			}
			check(t, p)
		}
	})
}

// P4: a list that was answered stays as it is through turns, and what becomes of it changes nothing in the queue.
func TestListsBehindATurn(t *testing.T) {
	eachTurn(t, func(t *testing.T, from, to int) {
		l := manyOfOneTime(100)
		want := (&plain{l: l}).all()
		p := pendOf(t, from, l...)
		one := p.All()
		turn(t, p, to)
		two := p.All()
		for range 50 {
			p.Pop()
		}
		push(t, p, at(-8, 500))
		turn(t, p, from)
		if !slices.Equal(one, want) || !slices.Equal(two, want) {
			t.Error("a list changed with its queue")
		}
		clear(one)
		clear(two)
		checkPops(t, p, append([]api.Message{at(-8, 500)}, want[50:]...)...)
	})
}
