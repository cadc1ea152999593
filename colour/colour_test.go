package colour

import (
	"math"
	"testing"

	"isochron/api"
)

// P12.1: a new tally has the colour 0, counts of 0, and no least time.
func TestNew(t *testing.T) {
	x := New()
	if x == nil || x.Colour() != 0 || x.Net(0) != 0 || x.Net(1) != 0 || x.Red() != 1<<62 {
		t.Fatalf("New: %v", x)
	}
}

// P12.1: each tally counts for itself.
func TestTalliesByThemselves(t *testing.T) {
	l := tallies(t, 3)
	l[0].sent(4, 5)
	l[1].flip()
	l[1].sent(7)
	l[1].got(0)
	for _, x := range l {
		x.check()
	}
	if x := l[2].tally; x.Colour() != 0 || x.Net(0) != 0 || x.Net(1) != 0 || x.Red() != 1<<62 {
		t.Errorf("one that was never called: %v", x)
	}
}

// P12.1: the first time that is sent is the least, unless it is behind Never; the answer is the tally's colour, whose count alone is one more.
func TestSentFirst(t *testing.T) {
	for colour := range 2 {
		for _, time := range times() {
			x := inColour(t, colour).tally
			if got := x.Sent(time); got != colour {
				t.Errorf("colour %d, Sent(%d): %d", colour, time, got)
			}
			if x.Net(colour) != 1 || x.Net(1-colour) != 0 || x.Colour() != colour {
				t.Errorf("colour %d, Sent(%d): counts %d, %d", colour, time, x.Net(0), x.Net(1))
			}
			want := time
			if want > 1<<62 {
				want = 1 << 62
			}
			if x.Red() != want {
				t.Errorf("colour %d, Sent(%d): least %d", colour, time, x.Red())
			}
		}
	}
}

// P12.1: each time behind each other one: the lesser of both is the least.
func TestSentBehindOthers(t *testing.T) {
	for colour := range 2 {
		for _, first := range times() {
			for _, next := range times() {
				b := inColour(t, colour)
				b.sent(first, next)
				if got, want := b.tally.Red(), min(first, next, 1<<62); got != want || b.tally.Net(colour) != 2 {
					t.Errorf("colour %d, Sent of %d, %d: least %d, count %d", colour, first, next, got, b.tally.Net(colour))
				}
			}
		}
	}
}

// P12.1: over many sendings, times that rise leave the least as it is, ones that fall are each the least.
func TestSentOften(t *testing.T) {
	for colour := range 2 {
		rise, fall := inColour(t, colour), inColour(t, colour)
		for i := range int64(300) {
			rise.sent(100 + i)
			fall.sent(1000 - i)
			if rise.tally.Red() != 100 || fall.tally.Red() != 1000-i {
				t.Fatalf("behind %d: least %d, %d", i, rise.tally.Red(), fall.tally.Red())
			}
		}
		if n := rise.tally.Net(colour); n != 300 {
			t.Errorf("colour %d: count %d", colour, n)
		}
	}
}

// P12.1: Got counts in the colour that it is told, whichever the tally has; more often than anything was sent, too.
func TestGot(t *testing.T) {
	for own := range 2 {
		for colour := range 2 {
			b := inColour(t, own)
			for i := 1; i <= 40; i++ {
				b.got(colour)
				if x := b.tally; x.Net(colour) != -i || x.Net(1-colour) != 0 || x.Colour() != own || x.Red() != 1<<62 {
					t.Fatalf("own %d, %d of the colour %d: counts %d, %d", own, i, colour, x.Net(0), x.Net(1))
				}
			}
			b.sent(8, 9)
			if x := b.tally; x.Net(own)+x.Net(1-own) != -38 {
				t.Errorf("own %d, colour %d: counts %d, %d", own, colour, x.Net(0), x.Net(1))
			}
		}
	}
}

// P12.1: what was received is no longer on its way, but its time stays among those that were sent.
func TestGotWhatWasSent(t *testing.T) {
	for own := range 2 {
		b := inColour(t, own)
		b.sent(3, 4)
		b.got(own, own, own)
		if x := b.tally; x.Net(own) != -1 || x.Red() != 3 {
			t.Errorf("own %d: count %d, least %d", own, x.Net(own), x.Red())
		}
	}
}

// P12.1: what is no colour is refused, and nothing changes.
func TestGotNoColour(t *testing.T) {
	for own := range 2 {
		for _, colour := range noColours() {
			b := inColour(t, own)
			if e := b.tally.Got(colour); e != 1 {
				t.Errorf("own %d, Got(%d): %d", own, colour, e)
			}
			b.check()
			b.sent(6)
			b.got(0, 1, colour, 1)
			if e := b.tally.Got(colour); e != 1 {
				t.Errorf("own %d, Got(%d) behind others: %d", own, colour, e)
			}
			b.check()
		}
	}
}

// P12.1: Flip turns the colour, back again at the second time; the least time is Never behind each, and the counts stay.
func TestFlip(t *testing.T) {
	for _, ahead := range [][]int64{nil, {5}, {0}, {-3, 7}, {api.MaxTime}, {api.Never}, {math.MaxInt64}, {math.MinInt64}} {
		b := tally(t)
		b.sent(ahead...)
		b.got(1)
		for i := 1; i <= 5; i++ {
			b.flip()
			x := b.tally
			if x.Colour() != i%2 || x.Red() != 1<<62 || x.Net(0) != len(ahead) || x.Net(1) != -1 {
				t.Errorf("behind %d, turned %d times: colour %d, least %d, counts %d, %d", ahead, i, x.Colour(), x.Red(), x.Net(0), x.Net(1))
			}
		}
	}
}

// P12.1: behind Flip the least is of what was sent behind it alone, in the other colour; behind a second one neither counts for the least.
func TestSentBehindFlip(t *testing.T) {
	for _, time := range times() {
		b := tally(t)
		b.sent(5, 3)
		b.flip()
		if got := b.tally.Sent(time); got != 1 {
			t.Errorf("Sent(%d) in the colour 1: %d", time, got)
		}
		b.plain.send(time)
		b.check()
		if got := b.tally.Red(); got != min(time, 1<<62) {
			t.Errorf("Sent(%d) behind Flip: least %d", time, got)
		}
		b.flip()
		b.sent(9)
		if x := b.tally; x.Red() != min(9, 1<<62) || x.Net(0) != 3 || x.Net(1) != 1 {
			t.Errorf("turned twice: least %d, counts %d, %d", x.Red(), x.Net(0), x.Net(1))
		}
	}
}

// P12.1: Net is 0 of what is no colour, whatever the counts are.
func TestNet(t *testing.T) {
	for own := range 2 {
		b := inColour(t, own)
		b.sent(1, 2, 3)
		b.got(1-own, 1-own)
		if x := b.tally; x.Net(own) != 3 || x.Net(1-own) != -2 {
			t.Errorf("own %d: counts %d, %d", own, x.Net(0), x.Net(1))
		}
		for _, colour := range noColours() {
			if n := b.tally.Net(colour); n != 0 {
				t.Errorf("own %d, Net(%d): %d", own, colour, n)
			}
			b.check()
		}
	}
}

// none are the tallies that no call made.
func none() map[string]*Tally { return map[string]*Tally{"nil": nil, "unmade": {}} }

// P12.3: each call of a tally that is nil or that no call made, twice, as the first changes nothing.
func TestNoTally(t *testing.T) {
	for name, x := range none() {
		for range 2 {
			for _, time := range times() {
				if got := x.Sent(time); got != 0 {
					t.Errorf("%s, Sent(%d): %d", name, time, got)
				}
			}
			for _, colour := range append(noColours(), 0, 1) {
				if e := x.Got(colour); e != 7 {
					t.Errorf("%s, Got(%d): %d", name, colour, e)
				}
				if n := x.Net(colour); n != 0 {
					t.Errorf("%s, Net(%d): %d", name, colour, n)
				}
			}
			if e := x.Flip(); e != 7 {
				t.Errorf("%s, Flip: %d", name, e)
			}
			if x.Colour() != 0 || x.Red() != 1<<62 {
				t.Errorf("%s: colour %d, least %d", name, x.Colour(), x.Red())
			}
		}
	}
	if x := new(Tally); x.Sent(5) != 0 || *x != (Tally{}) {
		t.Errorf("an unmade tally changed: %v", x)
	}
}
