package colour

import (
	"slices"
	"testing"

	"isochron/api"
)

// onWay is a message between processes.
type onWay struct {
	to, colour int
	time       int64
}

// processes hold times of events that they may still do, and send each other messages that are later than those.
type processes struct {
	*chance
	t      *testing.T
	token  *Token
	tally  []*Tally
	held   [][]int64
	ways   []onWay
	fuel   int // messages that may still be sent
	last   int64
	rounds int
}

func processesOf(t *testing.T, seed uint64, n, fuel int) *processes {
	t.Helper()
	token, e := NewToken(n)
	if e != api.OK {
		t.Fatalf("NewToken(%d): %d", n, e)
	}
	p := &processes{chance: &chance{seed: seed}, t: t, token: token, held: make([][]int64, n), fuel: fuel}
	for i := range n {
		p.tally = append(p.tally, New())
		for range p.below(3) {
			p.held[i] = append(p.held[i], int64(p.below(20)))
		}
	}
	return p
}

// least is the least of l, Never of none.
func least(l []int64) int64 { return slices.Min(append([]int64{1 << 62}, l...)) }

// do lets a process do one of the events that it holds, not always the first one, and send what comes of it.
func (p *processes) do(i int) {
	if len(p.held[i]) == 0 {
		return
	}
	place := p.below(len(p.held[i]))
	time := p.held[i][place]
	p.held[i] = slices.Delete(p.held[i], place, place+1)
	for range p.below(4) {
		if p.fuel == 0 {
			return
		}
		p.fuel--
		m := onWay{to: p.below(len(p.tally)), time: time + 1 + int64(p.below(30))}
		m.colour = p.tally[i].Sent(m.time)
		p.ways = append(p.ways, m)
	}
}

// deliver takes one message off its way, any one.
func (p *processes) deliver() {
	if len(p.ways) == 0 {
		return
	}
	place := p.below(len(p.ways))
	m := p.ways[place]
	p.ways = slices.Delete(p.ways, place, place+1)
	if e := p.tally[m.to].Got(m.colour); e != api.OK {
		p.t.Fatalf("Got(%d): %d", m.colour, e)
	}
	p.held[m.to] = append(p.held[m.to], m.time)
}

// visit lets the token go on, and looks at what it tells.
func (p *processes) visit() {
	p.t.Helper()
	at := p.token.At()
	told, isOver, e := p.token.Visit(p.tally[at], least(p.held[at]))
	if e != api.OK {
		p.t.Fatalf("Visit: %d", e)
	}
	if !isOver {
		return
	}
	p.rounds++
	if told < p.last {
		p.t.Fatalf("round %d: %d, behind %d", p.rounds, told, p.last)
	}
	p.last = told
	for i, l := range p.held {
		if told > least(l) {
			p.t.Fatalf("round %d: %d, and %d holds %d", p.rounds, told, i, l)
		}
	}
	for _, m := range p.ways {
		if told > m.time {
			p.t.Fatalf("round %d: %d, and %v is on its way", p.rounds, told, m)
		}
	}
}

// pace is how many of a hundred moves are events, and how many are messages that come; the others are visits.
type pace struct{ do, deliver int }

// run makes so many moves.
func (p *processes) run(moves int, at pace) {
	p.t.Helper()
	for range moves {
		switch n := p.below(100); {
		case n < at.do:
			p.do(p.below(len(p.tally)))
		case n < at.do+at.deliver:
			p.deliver()
		default:
			p.visit()
		}
	}
}

// empty lets all come and be done, without anything else sent.
func (p *processes) empty() {
	p.fuel = 0
	for len(p.ways) > 0 {
		p.deliver()
	}
	for i := range p.held {
		p.held[i] = nil
	}
}

// P12.4: what a round tells is at most the time of each event that is held and of each message on its way, and it never falls. Once nothing is left, the second round from there on tells Never.
func TestGlobalTime(t *testing.T) {
	for _, n := range []int{1, 2, 3, 5, 16} {
		for _, at := range []pace{{10, 10}, {30, 30}, {5, 60}, {20, 4}, {4, 20}, {2, 2}} {
			rounds := 0
			for seed := range uint64(20) {
				p := processesOf(t, seed, n, 4000)
				p.run(3000, at)
				rounds += p.rounds
				p.empty()
				for range 6 * n {
					p.visit()
				}
				if p.last != 1<<62 {
					t.Errorf("n %d, pace %v, seed %d: behind all events %d", n, at, seed, p.last)
				}
			}
			if rounds < 20 {
				t.Errorf("n %d, pace %v: only %d rounds", n, at, rounds)
			}
		}
	}
}

// P12.4: while all else goes on, one message is kept on its way: at most the round that does not count its colour ends, and tells no later time.
func TestMessageKeptBack(t *testing.T) {
	for _, n := range []int{1, 2, 5, 16} {
		for seed := range uint64(30) {
			p := processesOf(t, seed, n, 400)
			p.held[0] = append(p.held[0], 0)
			p.run(40*int(seed%5), pace{20, 20})
			if len(p.ways) == 0 {
				continue
			}
			kept := p.ways[0]
			p.ways = p.ways[1:]
			rounds := p.rounds
			for range 40 * n {
				p.run(1, pace{20, 20})
				if p.last > kept.time {
					t.Fatalf("n %d, seed %d: %d, and %v is on its way", n, seed, p.last, kept)
				}
			}
			if p.rounds > rounds+1 {
				t.Errorf("n %d, seed %d: %d rounds, and %v on its way all along", n, seed, p.rounds-rounds, kept)
			}
			p.ways = append(p.ways, kept)
			p.run(400, pace{10, 30})
		}
	}
}
