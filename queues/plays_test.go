package queues

import (
	"slices"
	"testing"

	"isochron/api"
	"isochron/draw"
)

// chance is a row of numbers that hang on a seed.
type chance struct {
	seed uint64
	n    int
}

func (c *chance) below(k int) int {
	c.n++
	return int(draw.Below(c.seed, 0, c.n, int64(k)))
}

// spread is how far apart the messages of a play are.
type spread struct {
	times, froms, seqs, uids int
}

func (c *chance) message(s spread) api.Message {
	m := message(int64(c.below(s.times)-s.times/2), c.below(s.froms)-1, c.below(s.seqs), c.below(s.uids))
	m.Value, m.Anti, m.To = int64(c.below(100)), c.below(2) == 0, c.below(16)
	if c.below(20) == 0 {
		m.Key.Time = times()[c.below(len(times()))]
	}
	return m
}

// step is one call, made of the queue and of its second reading; pushes is how many of a hundred calls are a Push.
func (c *chance) step(q queue, p *plain, s spread, pushes int) (got, want answer) {
	m := c.message(s)
	switch {
	case c.below(100) < pushes:
		return answer{e: q.Push(m)}, answer{e: p.push(m)}
	case c.below(2) == 0:
		return answered(q.Pop()), answered(p.take(p.foremost()))
	case len(p.l) > 0 && c.below(3) > 0:
		m = p.l[c.below(len(p.l))]
	}
	return answered(q.Cut(m.Key.From, m.Uid)), answered(p.take(p.find(m.Key.From, m.Uid)))
}

// play makes so many calls of q and p, and holds all that they tell against each other; behind some hundreds of calls the queue rather grows than shrinks, or the other way round.
func (c *chance) play(t *testing.T, q queue, p *plain, s spread, steps int, ends map[api.Errno]int) {
	t.Helper()
	pushes := 60
	for i := range steps {
		if i%300 == 0 {
			pushes = 35 + c.below(50)
		}
		got, want := c.step(q, p, s, pushes)
		if got != want {
			t.Fatalf("seed %d, %v, call %d: %v, want %v", c.seed, s, i, got, want)
		}
		ends[got.e]++
		if q.Len() != len(p.l) {
			t.Fatalf("seed %d, %v, call %d: Len %d, want %d", c.seed, s, i, q.Len(), len(p.l))
		}
		// The second reading is slow to find the first of many.
		if len(p.l) > 1000 && i%16 != 0 {
			continue
		}
		if got, want := answered(q.First()), answered(p.at(p.foremost())); got != want {
			t.Fatalf("seed %d, %v, call %d: First: %v, want %v", c.seed, s, i, got, want)
		}
		if i%64 == 0 && !slices.Equal(q.All(), p.all()) {
			t.Fatalf("seed %d, %v, call %d: All: %v, want %v", c.seed, s, i, q.All(), p.all())
		}
	}
	checkPops(t, q, p.l...)
}

func spreads() []spread {
	return []spread{
		{times: 1, froms: 2, seqs: 1, uids: 40},
		{times: 2, froms: 3, seqs: 2, uids: 8},
		{times: 10, froms: 1, seqs: 1, uids: 30},
		{times: 50, froms: 4, seqs: 4, uids: 100},
		{times: 100000, froms: 17, seqs: 100, uids: 100},
		{times: 1 << 40, froms: 5, seqs: 3, uids: 1 << 30},
	}
}

// P6.1, P6.3, P7.1, P7.3, P8.1, P8.3: long plays, held against the second reading.
func TestPlays(t *testing.T) {
	each(t, func(t *testing.T, k kind) {
		ends := map[api.Errno]int{}
		for seed := range uint64(4) {
			for _, s := range spreads() {
				(&chance{seed: seed}).play(t, k.empty(t), &plain{}, s, 3000, ends)
			}
		}
		checkEnds(t, ends, 1000, api.OK, api.ErrTwice, api.ErrNone)
	})
}

// P6.1, P6.3, P7.1, P7.3, P8.1, P8.3: plays around MaxQueue messages.
func TestPlaysAtTheLimit(t *testing.T) {
	each(t, func(t *testing.T, k kind) {
		q, l := full(t, k)
		p, c, ends := &plain{l: l}, &chance{seed: 99}, map[api.Errno]int{}
		c.play(t, q, p, spread{times: 6000, froms: 6, seqs: 9, uids: 20000}, 2000, ends)
		checkEnds(t, ends, 80, api.OK, api.ErrTwice, api.ErrFull)
	})
}

// checkEnds looks whether a play came to each of these ends often enough to tell anything.
func checkEnds(t *testing.T, ends map[api.Errno]int, least int, wanted ...api.Errno) {
	t.Helper()
	for _, e := range wanted {
		if ends[e] < least {
			t.Errorf("only %d ended with %d", ends[e], e)
		}
	}
}

// P5: what is answered hangs on the calls alone: the same play, once more, answers the same.
func TestThePlayOnceMore(t *testing.T) {
	each(t, func(t *testing.T, k kind) {
		s := spreads()[3]
		for seed := range uint64(20) {
			a, b := k.empty(t), k.empty(t)
			one, two := &chance{seed: seed}, &chance{seed: seed}
			for i := range 300 {
				x, _ := one.step(a, &plain{}, s, 60)
				y, _ := two.step(b, &plain{}, s, 60)
				if x != y || !slices.Equal(a.All(), b.All()) {
					t.Fatalf("seed %d, call %d: %v, %v", seed, i, x, y)
				}
			}
		}
	})
}
