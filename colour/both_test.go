package colour

import (
	"math"
	"testing"

	"isochron/api"
)

// times are those at which the document changes what is answered, their neighbours, and the ends of 64 bits.
func times() []int64 {
	return []int64{
		math.MinInt64, math.MinInt64 + 1, -1 << 62, -1 << 32, -2, -1, 0, 1, 2, 50, 1 << 31, 1 << 32,
		api.MaxTime - 1, api.MaxTime, api.Never, api.Never + 1, math.MaxInt64 - 1, math.MaxInt64,
	}
}

// noColours are numbers that are no colour.
func noColours() []int {
	return []int{math.MinInt, math.MinInt + 1, -1 << 32, -2, -1, 2, 3, 4, 16, 1 << 32, 1<<32 + 1, math.MaxInt - 1, math.MaxInt}
}

// both is a tally and its second reading, which are called alike.
type both struct {
	t     *testing.T
	tally *Tally
	plain *plainTally
}

// tally is a new one.
func tally(t *testing.T) both {
	t.Helper()
	x := New()
	if x == nil {
		t.Fatal("New: nil")
	}
	b := both{t: t, tally: x, plain: &plainTally{}}
	b.check()
	return b
}

// tallies are n new ones.
func tallies(t *testing.T, n int) []both {
	t.Helper()
	var l []both
	for range n {
		l = append(l, tally(t))
	}
	return l
}

// inColour is a new tally that turned so often as its colour asks for.
func inColour(t *testing.T, colour int) both {
	t.Helper()
	b := tally(t)
	for range colour {
		b.flip()
	}
	return b
}

func (b both) sent(l ...int64) {
	b.t.Helper()
	for _, time := range l {
		got, want := b.tally.Sent(time), b.plain.send(time)
		if got != want {
			b.t.Fatalf("Sent(%d): %d, want %d", time, got, want)
		}
		b.check()
	}
}

func (b both) got(l ...int) {
	b.t.Helper()
	for _, colour := range l {
		got, want := b.tally.Got(colour), api.Errno(b.plain.get(colour))
		if got != want {
			b.t.Fatalf("Got(%d): %d, want %d", colour, got, want)
		}
		b.check()
	}
}

func (b both) flip() {
	b.t.Helper()
	b.plain.flip()
	if e := b.tally.Flip(); e != api.OK {
		b.t.Fatalf("Flip: %d", e)
	}
	b.check()
}

// check holds all that the tally tells of itself against the second reading, twice, as telling changes nothing.
func (b both) check() {
	b.t.Helper()
	x, p := b.tally, b.plain
	for range 2 {
		if x.Colour() != p.colour() || x.Net(0) != p.net(0) || x.Net(1) != p.net(1) || x.Red() != p.red() {
			b.t.Fatalf("colour %d, counts %d and %d, least %d; want %d, %d and %d, %d",
				x.Colour(), x.Net(0), x.Net(1), x.Red(), p.colour(), p.net(0), p.net(1), p.red())
		}
	}
}

// visited is what a visit tells.
type visited struct {
	time int64
	over bool
	e    api.Errno
}

func answered(time int64, over bool, e api.Errno) visited { return visited{time, over, e} }

// notOver is what a visit tells that does not end a round.
func notOver() visited { return visited{} }

// over is what one tells that does.
func over(time int64) visited { return visited{time: time, over: true} }

// bothTokens are a token and its second reading.
type bothTokens struct {
	t     *testing.T
	token *Token
	plain *plainToken
}

// tokenOf is a new token of n processes.
func tokenOf(t *testing.T, n int) bothTokens {
	t.Helper()
	k, e := NewToken(n)
	if k == nil || e != api.OK {
		t.Fatalf("NewToken(%d): %v, %d", n, k, e)
	}
	b := bothTokens{t: t, token: k, plain: &plainToken{n: n}}
	b.check()
	return b
}

// check holds what the token tells of itself against the second reading, twice.
func (b bothTokens) check() {
	b.t.Helper()
	for range 2 {
		if k, p := b.token, b.plain; k.At() != p.at() || k.Counting() != p.counts {
			b.t.Fatalf("at %d, counting %t; want %d, %t", k.At(), k.Counting(), p.at(), p.counts)
		}
	}
}

// visit is one at x, which is held against the second reading, and the token and x behind it.
func (b bothTokens) visit(x both, local int64) visited {
	b.t.Helper()
	at := b.token.At()
	got := answered(b.token.Visit(x.tally, local))
	var want visited
	want.time, want.over = b.plain.visit(x.plain, local)
	if got != want {
		b.t.Fatalf("Visit to %d, local %d: %v, want %v", at, local, got, want)
	}
	b.check()
	x.check()
	return got
}

// pass visits all of l but the last one, which end no round, then the last one.
func (b bothTokens) pass(l []both, local ...int64) visited {
	b.t.Helper()
	if len(l) != b.plain.n || len(local) != 1 && len(local) != len(l) || b.token.At() != 0 {
		b.t.Fatalf("a pass of %d tallies from %d on, %d times", len(l), b.token.At(), len(local))
	}
	var last visited
	for i, x := range l {
		if last != notOver() || b.token.At() != i {
			b.t.Fatalf("ahead of %d: %v, at %d", i, last, b.token.At())
		}
		last = b.visit(x, local[i%len(local)])
	}
	return last
}

// turn is the first part of a round.
func (b bothTokens) turn(l []both) {
	b.t.Helper()
	if b.token.Counting() || b.pass(l, 1) != notOver() || !b.token.Counting() || b.token.At() != 0 {
		b.t.Fatalf("turning: counting %t, at %d", b.token.Counting(), b.token.At())
	}
}

// sizes are the numbers of processes that the tests of rounds take.
func sizes() []int { return []int{1, 2, 3, 5, api.MaxLanes - 1, api.MaxLanes} }
