package log

import (
	"testing"

	"isochron/api"
	"isochron/draw"
)

// chance is a row of numbers that hang on a seed.
type chance struct {
	seed uint64
	n    int
}

func (c *chance) below(k int) int {
	c.n++
	return int(draw.Below(c.seed, 0, c.n, int64(k)))
}

// message is one not far from the end of the log; a few are such that may not be done.
func (c *chance) message(p *plain) api.Message {
	m := api.Message{Key: api.Key{Time: int64(c.below(5)), From: c.below(3) - 1, Seq: c.below(3)}, To: c.below(16), Value: int64(c.below(60)), Uid: c.below(30)}
	if last, there := p.last(); there {
		m.Key.Time += last.Key.Time
	}
	switch c.below(60) {
	case 0:
		m.Value = -1
	case 1:
		m.Key.Time += api.MaxTime - 3
	case 2:
		m.Anti = true
	case 3:
		m.Uid -= 20
	case 4:
		m.Key.From += 15
	}
	return m
}

// kept are some of the messages that m would send, some with another name, some changed, and some others.
func (c *chance) kept(p *plain, m api.Message) []api.Message {
	x, _ := p.try(m, c.below(50), nil)
	var l []api.Message
	for _, k := range x.Sent {
		for range c.below(3) {
			k.Uid = c.below(1000)
			if c.below(4) == 0 {
				k.To, k.Value = c.below(16), k.Value+int64(c.below(2))
			}
			l = append(l, k)
		}
	}
	for i := range l {
		j := c.below(len(l))
		l[i], l[j] = l[j], l[i]
	}
	return l
}

// place is a message around some entry.
func (c *chance) place(p *plain) api.Message {
	if len(p.l) == 0 {
		return c.message(p)
	}
	m := p.l[len(p.l)-1-c.below(min(len(p.l), 1+c.below(40)))].Event
	switch c.below(3) {
	case 0:
		m.Key.Time += int64(c.below(3) - 1)
	case 1:
		m.Uid += c.below(3) - 1
	}
	return m
}

// number is one of Every.
func (c *chance) number() int { return []int{1, 2, 3, 4, 8, 16, 64, 1024}[c.below(8)] }

// step makes one call of b, and tells what was refused; calm is how many of a hundred calls are a Do, beside those that are one by chance.
func (c *chance) step(b both, calm int) api.Errno {
	b.t.Helper()
	p, pick := b.plain, c.below(100)
	if c.below(100) < calm {
		pick = 99
	}
	switch {
	case pick < 4:
		b.back(c.place(p))
	case pick < 7:
		gone := b.back(c.place(p))
		b.every(c.number())
		b.again(gone, c.below(1000))
	case pick < 9:
		b.drop(c.place(p).Key.Time - int64(c.below(100)))
	case pick < 12:
		b.every(c.number())
	case pick < 15:
		m := c.place(p)
		b.find(m.Key.From, m.Uid)
	case pick < 30:
		m := c.message(p)
		_, e := b.try(m, c.below(1000)-5, c.kept(p, m))
		return e
	default:
		m := c.message(p)
		_, e := b.do(m, c.below(1000)-5, c.kept(p, m))
		return e
	}
	return api.OK
}

// P10.1 to P10.5: long plays of all calls, held against the second reading.
func TestPlays(t *testing.T) {
	t.Parallel()
	ends, faults := map[api.Errno]int{}, 0
	for seed := range uint64(24) {
		c, calm := &chance{seed: seed}, []int{0, 80, 97}[seed%3]
		b := newBoth(t, world(), api.State{Sent: c.below(9)}, c.number())
		for i := range 2000 {
			was := b.log.Stuck()
			ends[c.step(b, calm)]++
			b.checkFew()
			if i%25 == 0 {
				b.check()
			}
			if b.log.Stuck() && !was {
				faults++
			}
			if last, there := b.plain.last(); there && b.log.Stuck() && c.below(6) == 0 {
				b.back(last)
			}
			// A log that lost its fault to a Drop is stuck to the end.
			if b.log.Stuck() && b.log.Len() == 0 {
				b = newBoth(t, world(), b.log.State(), c.number())
			}
		}
		b.check()
	}
	for _, e := range []api.Errno{api.OK, api.ErrArg, api.ErrState} {
		if ends[e] < 1000 {
			t.Errorf("only %d calls ended with %d", ends[e], e)
		}
	}
	if faults < 100 {
		t.Errorf("only %d faults", faults)
	}
}

// P5: what is answered hangs on the calls alone: the same play, once more, answers the same.
func TestThePlayOnceMore(t *testing.T) {
	for seed := range uint64(8) {
		one, two := &chance{seed: seed}, &chance{seed: seed}
		a, b := newBoth(t, world(), api.State{}, 3), newBoth(t, world(), api.State{}, 3)
		for i := range 500 {
			if e, f := one.step(a, 50), two.step(b, 50); e != f || !sameEntries(a.log.All(), b.log.All()) || a.log.Kept() != b.log.Kept() {
				t.Fatalf("seed %d, call %d: %d, %d", seed, i, e, f)
			}
		}
	}
}
