package colour

import "slices"

// sending is a message that was sent, as a tally has it.
type sending struct {
	colour int
	time   int64
}

// plainTally is the chapter, read a second time: all that was ever done, from which each answer is found anew.
type plainTally struct {
	flips int
	sent  []sending
	since int // how many were sent ahead of the last flip
	got   []int
}

func (p *plainTally) colour() int { return p.flips % 2 }

func (p *plainTally) send(time int64) int {
	p.sent = append(p.sent, sending{p.colour(), time})
	return p.colour()
}

func (p *plainTally) get(colour int) int {
	if colour != 0 && colour != 1 {
		return 1
	}
	p.got = append(p.got, colour)
	return 0
}

func (p *plainTally) flip() {
	p.flips++
	p.since = len(p.sent)
}

func (p *plainTally) net(colour int) int {
	if colour != 0 && colour != 1 {
		return 0
	}
	n := 0
	for _, s := range p.sent {
		if s.colour == colour {
			n++
		}
	}
	for _, c := range p.got {
		if c == colour {
			n--
		}
	}
	return n
}

func (p *plainTally) red() int64 {
	times := []int64{1 << 62}
	for _, s := range p.sent[p.since:] {
		times = append(times, s.time)
	}
	return slices.Min(times)
}

// told is what one visit of counting brings to the token.
type told struct {
	net          int
	local, least int64
}

// plainToken is the same of a token: the visits since it last began to go to all.
type plainToken struct {
	n      int
	counts bool
	seen   []told
}

func (p *plainToken) at() int { return len(p.seen) }

func (p *plainToken) visit(t *plainTally, local int64) (int64, bool) {
	if !p.counts {
		t.flip()
	}
	p.seen = append(p.seen, told{t.net(1 - t.colour()), local, t.red()})
	if len(p.seen) < p.n {
		return 0, false
	}
	seen := p.seen
	p.seen = nil
	if !p.counts {
		p.counts = true
		return 0, false
	}
	return p.round(seen)
}

// round is how a round ends in which so much was told, or that it does not end yet.
func (p *plainToken) round(seen []told) (int64, bool) {
	n, times := 0, []int64{1 << 62}
	for _, x := range seen {
		n += x.net
		times = append(times, x.local, x.least)
	}
	if n != 0 {
		return 0, false
	}
	p.counts = false
	return slices.Min(times), true
}
