package colour

import (
	"math"
	"testing"

	"isochron/api"
	"isochron/draw"
)

// chance is a row of numbers that hang on a seed.
type chance struct {
	seed uint64
	n    int
}

func (c *chance) below(k int) int {
	c.n++
	return int(draw.Below(c.seed, 0, c.n, int64(k)))
}

// time is mostly a small one, at times one of the edges.
func (c *chance) time() int64 {
	if c.below(20) == 0 {
		l := times()
		return l[c.below(len(l))]
	}
	return int64(c.below(1000))
}

// colour is mostly one, at times none.
func (c *chance) colour() int {
	if c.below(20) == 0 {
		l := noColours()
		return l[c.below(len(l))]
	}
	return c.below(2)
}

// play is a token, and tallies that it visits.
type play struct {
	*chance
	k bothTokens
	l []both
}

func playOf(t *testing.T, seed uint64, n int) play {
	t.Helper()
	return play{chance: &chance{seed: seed}, k: tokenOf(t, n), l: tallies(t, n)}
}

// settle brings the counts of all tallies to 0, so that rounds come to an end now and then.
func (p play) settle() {
	p.k.t.Helper()
	for _, x := range p.l {
		for range 2 {
			for range x.plain.net(x.plain.colour()) {
				x.got(x.plain.colour())
			}
			for x.plain.net(x.plain.colour()) < 0 {
				x.sent(p.time())
			}
			x.flip()
		}
	}
}

// place is where the next visit goes: mostly where the token goes to, at times anywhere.
func (p play) place() both {
	if p.below(10) == 0 {
		return p.l[p.below(len(p.l))]
	}
	return p.l[p.k.token.At()]
}

// visitNone visits a tally that no call made.
func (p play) visitNone() visited {
	p.k.t.Helper()
	x := []*Tally{nil, {}}[p.below(2)]
	got := answered(p.k.token.Visit(x, p.time()))
	if got != (visited{e: 7}) {
		p.k.t.Fatalf("Visit of %v: %v", x, got)
	}
	p.k.check()
	return got
}

// step makes one call, and tells how it ended, if it was a visit; visits is how many of a hundred calls are visits.
func (p play) step(visits int) (visited, bool) {
	p.k.t.Helper()
	x := p.l[p.below(len(p.l))]
	switch n := p.below(100); {
	case n < visits && n%16 == 15:
		return p.visitNone(), true
	case n < visits:
		return p.k.visit(p.place(), p.time()), true
	case p.below(60) == 0:
		x.flip()
	case p.below(10) == 0:
		p.settle()
	case p.below(2) == 0:
		x.sent(p.time())
	default:
		x.got(p.colour())
	}
	return visited{}, false
}

// ends counts how visits ended.
type ends struct{ open, anew, over, refused int }

// run makes so many calls, and counts into e how its visits ended; behind some hundreds of calls there are more visits, or fewer.
func (p play) run(steps int, e *ends) {
	p.k.t.Helper()
	visits := 50
	for i := range steps {
		if i%100 == 0 {
			visits = 20 + p.below(80)
		}
		counts := p.k.token.Counting()
		switch x, is := p.step(visits); {
		case is && x.e != api.OK:
			e.refused++
		case is && x.over:
			e.over++
		case is && counts && p.k.token.At() == 0:
			e.anew++
		case is:
			e.open++
		}
	}
	for _, x := range p.l {
		x.check()
	}
}

// P12.1, P12.2 and P12.3: long plays of all calls, held against the second reading.
func TestPlays(t *testing.T) {
	var e ends
	for _, n := range []int{1, 2, 3, 5, 16} {
		for seed := range uint64(12) {
			playOf(t, seed, n).run(600, &e)
		}
	}
	if e.open < 1000 || e.anew < 500 || e.over < 500 || e.refused < 500 {
		t.Errorf("too few visits of a kind: %v", e)
	}
}

// P12.2: plays of a token and the tallies that it goes to in turn, with nothing else visited, so that rounds of many processes come to an end.
func TestPlaysInTurn(t *testing.T) {
	for _, n := range sizes() {
		var e ends
		for seed := range uint64(4) {
			p := playOf(t, seed, n)
			for range 80 {
				p.oneRound(&e)
			}
		}
		if e.over != 320 || e.anew < 100 {
			t.Errorf("n %d: %v", n, e)
		}
	}
}

// oneRound goes round until the round is over; the tallies send and get what they like between its visits, but for what keeps it open for good.
func (p play) oneRound(e *ends) {
	p.k.t.Helper()
	for i := 0; ; i++ {
		x := p.l[p.k.token.At()]
		if p.below(3) == 0 {
			x.sent(p.time())
		}
		if i > 3*len(p.l) || p.below(3) == 0 {
			p.getAhead(x)
		}
		counts := p.k.token.Counting()
		got := p.k.visit(x, p.time())
		if got.over {
			e.over++
			return
		}
		if counts && p.k.token.At() == 0 {
			e.anew++
		}
	}
}

// getAhead lets a tally get what is on its way from it in the colour that is counted next.
func (p play) getAhead(x both) {
	p.k.t.Helper()
	colour := x.plain.colour()
	if p.k.plain.counts {
		colour = 1 - colour
	}
	for range x.plain.net(colour) {
		x.got(colour)
	}
}

// P5: what is answered hangs on the calls alone: the same play, once more, answers the same.
func TestThePlayOnceMore(t *testing.T) {
	for seed := range uint64(10) {
		a, b := playOf(t, seed, 3), playOf(t, seed, 3)
		for i := range 400 {
			x, isX := a.step(50)
			y, isY := b.step(50)
			if x != y || isX != isY {
				t.Fatalf("seed %d, call %d: %v, %v", seed, i, x, y)
			}
		}
		for i, x := range a.l {
			if *x.tally != *b.l[i].tally {
				t.Errorf("seed %d, tally %d: %v, %v", seed, i, x.tally, b.l[i].tally)
			}
		}
	}
}

// P12.1: counts are exact over long rows of calls, in both colours.
func TestCountsOfMany(t *testing.T) {
	for colour := range 2 {
		x := inColour(t, colour).tally
		for i := range 100000 {
			if got := x.Sent(math.MaxInt64 - int64(i)); got != colour {
				t.Fatalf("Sent: %d", got)
			}
		}
		for range 70000 {
			x.Got(colour)
			x.Got(1 - colour)
		}
		if x.Net(colour) != 30000 || x.Net(1-colour) != -70000 || x.Red() != 1<<62 {
			t.Errorf("colour %d: %v", colour, x)
		}
	}
}
