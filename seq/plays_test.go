package seq

import (
	"math"
	"reflect"
	"slices"
	"testing"

	"isochron/api"
	below "isochron/draw"
)

// chance is a row of numbers that hang on a seed.
type chance struct {
	seed uint64
	n    int
}

func (c *chance) below(k int) int {
	c.n++
	return int(below.Below(c.seed, 0, c.n, int64(k)))
}

// one is one of l.
func one[T any](c *chance, l []T) T { return l[c.below(len(l))] }

// part is a part of a handler; few of them end with a fault.
func (c *chance) part() []api.Instr {
	switch c.below(13) {
	case 0, 1:
		return countIt()
	case 2:
		return draw(c.below(8), 1+c.below(9))
	case 3: // a draw as the delay, at times too soon
		return slices.Concat(draw(14, 12), add(14, 4-c.below(6)/5*4), set(13, c.below(4)), []api.Instr{{Op: api.OpSend, A: 13, B: 14, C: c.below(8)}})
	case 4: // no further here, if a register is 0
		return []api.Instr{{Op: api.OpZero, A: c.below(8), B: -1}}
	case 5:
		return []api.Instr{{Op: 1 + c.below(9), A: c.below(16), B: c.below(16), C: c.below(16)}}
	case 6: // the value as the link, and as what a register is
		return []api.Instr{{Op: api.OpValue, A: 13}, {Op: api.OpTime, A: c.below(8)}, {Op: api.OpSelf, A: c.below(8)}}
	case 7:
		return sendBehindValue(c.below(4))
	}
	return send(c.below(5)-1, 4+c.below(9))
}

// handler is a program of some parts; those that leave it go to its end.
func (c *chance) handler() []api.Instr {
	var l []api.Instr
	for range c.below(6) {
		l = slices.Concat(l, c.part())
	}
	for k := range l {
		switch {
		case l[k].Op == api.OpZero:
			l[k].B = len(l)
		case l[k].Op == api.OpSet || l[k].Op == api.OpMove:
			l[k].C = 0
		}
	}
	return l
}

func (c *chance) time() int64 {
	if c.below(25) == 0 {
		return api.MaxTime - int64(c.below(6))
	}
	return int64(c.below(30))
}

func (c *chance) value() int64 {
	if c.below(5) == 0 {
		return one(c, []int64{math.MinInt64, 0, api.MaxTime, api.Never, math.MaxInt64})
	}
	return int64(4 + c.below(50))
}

// right is a model that may be: of few processes most times, with some of the links.
func (c *chance) right() api.Model {
	m := api.Model{Seed: uint64(c.below(1000)) << 40, End: int64(c.below(90)), Budget: c.below(90)}
	if c.below(5) == 0 {
		m.End = api.MaxTime - int64(c.below(10))
	}
	processes := 1 + c.below(4)
	if c.below(10) == 0 {
		processes = 16
	}
	for range processes {
		m.Progs = append(m.Progs, c.handler())
	}
	for from := range processes {
		for to := range processes {
			if c.below(3) > 0 {
				m.Links = append(m.Links, api.Link{From: from, To: to, Look: int64(1 + c.below(4)), Loose: c.below(2) == 0})
			}
		}
	}
	for k := len(m.Links) - 1; k > 0; k-- {
		other := c.below(k + 1)
		m.Links[k], m.Links[other] = m.Links[other], m.Links[k]
	}
	for range c.below(9) {
		m.Starts = append(m.Starts, api.Start{To: c.below(processes), Time: c.time(), Value: c.value()})
	}
	return m
}

// model is a right one most times, else one with one or two flaws.
func (c *chance) model() api.Model {
	if c.below(8) > 0 {
		return c.right()
	}
	m := c.right()
	for len(m.Progs) < 2 || len(m.Links) == 0 || len(m.Starts) < 2 {
		m = c.right()
	}
	for range 1 + c.below(2) {
		f := one(c, flaws()[2:])
		f.wrong(&m)
	}
	return m
}

// P14.1 to P14.3, P4: all calls at random models, right and wrong ones, against the second reading.
func TestPlays(t *testing.T) {
	stops, errors := map[int]int{}, map[api.Errno]int{}
	events := 0
	for seed := range uint64(1500) {
		c := &chance{seed: seed}
		a := hold(t, c.model())
		errors[a.e]++
		if a.e == api.OK {
			stops[a.result.Stop]++
			events += len(a.result.History)
		}
	}
	for _, stop := range []int{api.StopDone, api.StopTime, api.StopLook, api.StopFull} {
		if stops[stop] < 50 {
			t.Errorf("the plays came to the stop %d %d times only", stop, stops[stop])
		}
	}
	for _, e := range []api.Errno{api.OK, api.ErrArg, api.ErrProg, api.ErrLink, api.ErrEvent} {
		if errors[e] < 10 {
			t.Errorf("the plays came to the error %d %d times only", e, errors[e])
		}
	}
	if events < 10000 {
		t.Errorf("the plays came to %d events only", events)
	}
}

// P14.2, P14.3: at every count from 0 to one behind the last event, what was done, and what waits, are those of the second reading; the first that waits is done next.
func TestPlaysAtEveryCount(t *testing.T) {
	counts := 0
	for seed := range uint64(300) {
		c := &chance{seed: seed + 1<<20}
		m := c.right()
		whole, _ := Run(m)
		for n := range len(whole.History) + 2 {
			part, e := Part(m, n)
			left, e2 := Left(m, n)
			want := plainAnswer(m, n, true)
			if e != api.OK || e2 != api.OK || !reflect.DeepEqual(answerOf(part, e).result, want.result) || !slices.Equal(left, want.left) {
				t.Fatalf("%v at %d: %v, %v, want %v", m, n, part, left, want)
			}
			holdHistory(t, whole.History, part.History)
			if n < len(whole.History) && (part.Stop != api.StopNot || len(left) == 0 || left[0].Key != whole.History[n].Key) {
				t.Fatalf("%v at %d: %d, %v waits, %v is done next", m, n, part.Stop, left, whole.History[n])
			}
			counts++
		}
	}
	if counts < 2000 {
		t.Errorf("%d counts only", counts)
	}
}

// P14.1 to P14.3: runs of thousands of events.
func TestLongPlays(t *testing.T) {
	longest := 0
	for seed := range uint64(60) {
		c := &chance{seed: seed + 1<<30}
		m := c.right()
		for k := range m.Progs { // all go on for ever
			m.Progs[k] = slices.Concat(countIt(), draw(2, 1000), send(k, 4+c.below(9)), send(c.below(9), 5+c.below(40)))
		}
		m.Links = append(slices.DeleteFunc(m.Links, func(l api.Link) bool { return l.From == l.To }), itself(0, 1))
		m.Starts, m.End, m.Budget = append(m.Starts, api.Start{Value: 5}), int64(50+c.below(2000)), 500+c.below(1500)
		r, e := Run(m)
		want := plainAnswer(m, 0, false)
		if e != api.OK || !reflect.DeepEqual(answerOf(r, e).result, want.result) {
			t.Fatalf("%v: %v, want %v", m, r, want)
		}
		if left, _ := Left(m, math.MaxInt); !slices.Equal(left, want.left) {
			t.Fatalf("%v: %v, want %v", m, left, want.left)
		}
		holdHistory(t, r.History, nil)
		longest = max(longest, len(r.History))
	}
	if longest < 1500 {
		t.Errorf("%d events at most", longest)
	}
}

// P14.1, P1: as many of everything as there may be: it ends, and what waits is in order.
func TestTheMost(t *testing.T) {
	m := modelOf()
	for from := range 16 {
		var l []api.Instr
		for k := range 8 {
			l = slices.Concat(l, send(from+k, 5000-100*k))
		}
		m.Progs = append(m.Progs, l)
		for to := range 16 {
			m.Links = append(m.Links, api.Link{From: from, To: to, Look: int64(1 + to)})
		}
	}
	for k := range api.MaxEvents {
		m.Starts = append(m.Starts, api.Start{To: k % 16, Time: int64(api.MaxEvents - k), Value: int64(k)})
	}
	m.End, m.Budget = api.MaxTime, api.MaxEvents
	r, e := Run(m)
	if e != api.OK || r.Stop != api.StopFull || len(r.History) != api.MaxEvents {
		t.Fatalf("%d events, stop %d, %d", len(r.History), r.Stop, e)
	}
	holdHistory(t, r.History, nil)
	left, _ := Left(m, api.MaxEvents)
	if len(left) != 8*api.MaxEvents {
		t.Fatalf("%d wait", len(left))
	}
	if !slices.IsSortedFunc(left, func(a, b api.Message) int { return plainOrder(a.Key, b.Key) }) {
		t.Error("what waits is not in order")
	}
	for _, x := range left {
		if x.Uid != 0 || x.Anti || x.Key.From == api.Outside {
			t.Fatalf("%v waits", x)
		}
	}
}

// P5: the same models once more, in another order: the same answers.
func TestThePlayOnceMore(t *testing.T) {
	var l [][]answer
	for seed := range uint64(200) {
		l = append(l, toldOf((&chance{seed: seed}).model(), askedOf(20)))
	}
	for seed := range uint64(200) {
		m := (&chance{seed: 199 - seed}).model()
		if !reflect.DeepEqual(toldOf(m, askedOf(20)), l[199-seed]) {
			t.Fatalf("the model of %d is answered otherwise", 199-seed)
		}
	}
}
