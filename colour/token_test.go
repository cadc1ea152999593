package colour

import (
	"math"
	"testing"

	"isochron/api"
)

// P12.2: a token has 1 to 16 processes; it goes to 0, turning.
func TestNewToken(t *testing.T) {
	for _, n := range []int{math.MinInt, math.MinInt + 1, -1 << 32, -16, -2, -1, 0, 17, 18, 32, 1 << 10, 1 << 32, 1<<32 + 1, math.MaxInt - 1, math.MaxInt} {
		if k, e := NewToken(n); k != nil || e != 1 {
			t.Errorf("NewToken(%d): %v, %d", n, k, e)
		}
	}
	for n := 1; n <= 16; n++ {
		if k, e := NewToken(n); k == nil || e != api.OK || k.At() != 0 || k.Counting() {
			t.Errorf("NewToken(%d): %v, %d", n, k, e)
		}
	}
}

// The document's example: one process that sent a message at 5, and gets it only behind the first counting.
func TestExample(t *testing.T) {
	x, k := tally(t), tokenOf(t, 1)
	x.sent(5)
	if got := k.visit(x, 9); got != notOver() {
		t.Errorf("turning: %v", got)
	}
	if got := k.visit(x, 9); got != notOver() {
		t.Errorf("a message on its way: %v", got)
	}
	x.got(0)
	if got := k.visit(x, 9); got != over(9) {
		t.Errorf("none on its way: %v", got)
	}
	if k.token.Counting() || k.token.At() != 0 {
		t.Errorf("behind a round: %v", k.token)
	}
}

// P12.2: turning goes to each process once, whatever the local times are, turns it, and counts nothing; then the token counts, from 0 on.
func TestTurning(t *testing.T) {
	for n := 1; n <= api.MaxLanes; n++ {
		for _, local := range times() {
			k, l := tokenOf(t, n), tallies(t, n)
			for i, x := range l {
				x.sent(int64(i))
				if k.token.At() != i || k.token.Counting() {
					t.Fatalf("n %d, ahead of %d: %v", n, i, k.token)
				}
				if got := k.visit(x, local); got != notOver() {
					t.Fatalf("n %d, turning %d: %v", n, i, got)
				}
				if x.tally.Colour() != 1 || x.tally.Net(0) != 1 || x.tally.Red() != 1<<62 {
					t.Fatalf("n %d, %d turned: %v", n, i, x.tally)
				}
			}
			if k.token.At() != 0 || !k.token.Counting() {
				t.Fatalf("n %d, behind turning: %v", n, k.token)
			}
		}
	}
}

// P12.2: local is not looked at while turning: what a round tells is of counting alone.
func TestLocalOfTurning(t *testing.T) {
	for _, n := range sizes() {
		for _, local := range times() {
			k, l := tokenOf(t, n), tallies(t, n)
			k.pass(l, local)
			if got := k.pass(l, 40); got != over(40) {
				t.Errorf("n %d, local %d while turning: %v", n, local, got)
			}
		}
	}
}

// P12.2: what was sent ahead of turning is no longer among the times, even if the message is received only later.
func TestTimesOfTurning(t *testing.T) {
	for _, n := range sizes() {
		k, l := tokenOf(t, n), tallies(t, n)
		l[0].sent(3)
		k.turn(l)
		l[n-1].got(0)
		if got := k.pass(l, 40); got != over(40) {
			t.Errorf("n %d: %v", n, got)
		}
	}
}

// P12.2: with nothing on its way the first counting ends the round, and the token turns anew.
func TestRound(t *testing.T) {
	for n := 1; n <= api.MaxLanes; n++ {
		k, l := tokenOf(t, n), tallies(t, n)
		for round := 1; round <= 5; round++ {
			k.turn(l)
			if got := k.pass(l, int64(10*round)); got != over(int64(10*round)) {
				t.Fatalf("n %d, round %d: %v", n, round, got)
			}
			if k.token.At() != 0 || k.token.Counting() || l[n-1].tally.Colour() != round%2 {
				t.Fatalf("n %d, behind the round %d: %v", n, round, k.token)
			}
		}
	}
}

// P12.2: while a message in the colour ahead of turning is on its way, it is counted anew, several times over; the sum and the least begin anew each time.
func TestCountingAnew(t *testing.T) {
	for _, n := range sizes() {
		for ways := 1; ways <= 4; ways++ {
			for from := range n {
				k, l := tokenOf(t, n), tallies(t, n)
				for i := range ways {
					l[from].sent(int64(20 + i))
				}
				k.turn(l)
				for i := range ways {
					if got := k.pass(l, int64(i)); got != notOver() || !k.token.Counting() || k.token.At() != 0 {
						t.Fatalf("n %d, %d from %d, %d of them got: %v", n, ways, from, i, got)
					}
					l[(from+i)%n].got(0)
				}
				if got := k.pass(l, 9); got != over(9) || k.token.Counting() {
					t.Errorf("n %d, %d from %d, all got: %v", n, ways, from, got)
				}
			}
		}
	}
}

// P12.2: nothing of a counting that had to be done anew is told: neither its local times nor a sum that another would make up for.
func TestNothingOfTheCountingAhead(t *testing.T) {
	for _, n := range sizes() {
		k, l := tokenOf(t, n), tallies(t, n)
		l[0].sent(8, 8)
		k.turn(l)
		for range 3 {
			if got := k.pass(l, math.MinInt64); got != notOver() {
				t.Fatalf("n %d: %v", n, got)
			}
		}
		// Now the sum would be -2 by itself, and 0 with that of one counting ahead.
		l[n-1].got(0, 0, 0, 0)
		if got := k.pass(l, 7); got != notOver() {
			t.Errorf("n %d, more got than sent: %v", n, got)
		}
		k2, l2 := tokenOf(t, n), tallies(t, n)
		l2[0].sent(8)
		k2.turn(l2)
		k2.pass(l2, 2)
		l2[n-1].got(0)
		if got := k2.pass(l2, 30); got != over(30) {
			t.Errorf("n %d, behind a counting with lesser times: %v", n, got)
		}
	}
}

// P12.2: nothing of one round is left in the next.
func TestTwoRounds(t *testing.T) {
	for _, n := range sizes() {
		k, l := tokenOf(t, n), tallies(t, n)
		k.turn(l)
		l[0].sent(6) // in the colour 1
		if got := k.pass(l, 9); got != over(6) {
			t.Fatalf("n %d, the first round: %v", n, got)
		}
		k.turn(l)
		if got := k.pass(l, 12); got != notOver() {
			t.Fatalf("n %d, what the first round did not wait for: %v", n, got)
		}
		l[n-1].got(1)
		if got := k.pass(l, 12); got != over(12) {
			t.Errorf("n %d, the second round: %v", n, got)
		}
	}
}

// P12.2: what is sent in the colour behind turning does not keep the round open, but its time is among those that are told.
func TestSentBehindTurning(t *testing.T) {
	for _, n := range sizes() {
		for from := range n {
			for _, time := range times() {
				k, l := tokenOf(t, n), tallies(t, n)
				k.turn(l)
				l[from].sent(time)
				if got := k.pass(l, 60); got != over(min(time, 60)) {
					t.Errorf("n %d, %d sent from %d: %v", n, time, from, got)
				}
			}
		}
	}
}

// P12.2: a count above 0 at one process and below 0 at another one add up to 0, wherever they are.
func TestCountsThatAddUp(t *testing.T) {
	for _, n := range sizes()[1:] {
		for from := range n {
			for to := range n {
				k, l := tokenOf(t, n), tallies(t, n)
				l[from].sent(1, 2, 3)
				l[to].got(0, 0)
				k.turn(l)
				if got := k.pass(l, 5); got != notOver() {
					t.Errorf("n %d, 3 from %d, 2 at %d: %v", n, from, to, got)
				}
				l[to].got(0)
				if got := k.pass(l, 5); got != over(5) {
					t.Errorf("n %d, 3 from %d, 3 at %d: %v", n, from, to, got)
				}
			}
		}
	}
}

// P12.2: a sum below 0 keeps the round open just as one above.
func TestSumBelow(t *testing.T) {
	for _, n := range sizes() {
		k, l := tokenOf(t, n), tallies(t, n)
		l[n/2].got(0)
		k.turn(l)
		for range 3 {
			if got := k.pass(l, 5); got != notOver() || !k.token.Counting() {
				t.Fatalf("n %d: %v", n, got)
			}
		}
	}
}

// P12.2: the colour that is counted is the one that the tally does not have when it is visited.
func TestColourThatIsCounted(t *testing.T) {
	for _, n := range sizes() {
		for turned := range 2 {
			k, l := tokenOf(t, n), tallies(t, n)
			for _, x := range l {
				for range turned {
					x.flip()
				}
			}
			k.turn(l)
			l[0].got(1 - turned) // the colour that all have now: not counted
			if got := k.pass(l, 5); got != over(5) {
				t.Errorf("n %d, colour %d ahead of turning: %v", n, turned, got)
			}
			k.turn(l) // now that one is counted
			if got := k.pass(l, 5); got != notOver() {
				t.Errorf("n %d, colour %d ahead of turning, the next round: %v", n, turned, got)
			}
			l[n-1].flip() // and here the other one, so that nothing is missing where the last one got none
			want := notOver()
			if n == 1 {
				want = over(5)
			}
			if got := k.pass(l, 5); got != want {
				t.Errorf("n %d, colour %d ahead of turning, the last one turned by itself: %v", n, turned, got)
			}
		}
	}
}

// P12.2: the least is told, from whichever process it comes, of its local time or of what it sent.
func TestWhereTheLeastIs(t *testing.T) {
	for _, n := range sizes() {
		for from := range n {
			for _, time := range times() {
				local := make([]int64, n)
				for i := range local {
					local[i] = math.MaxInt64
				}
				k, l := tokenOf(t, n), tallies(t, n)
				k.turn(l)
				local[from] = time
				if got := k.pass(l, local...); got != over(min(time, 1<<62)) {
					t.Errorf("n %d, local %d at %d: %v", n, time, from, got)
				}
				k.turn(l)
				local[from] = 1 << 62
				l[from].sent(time)
				if got := k.pass(l, local...); got != over(min(time, 1<<62)) {
					t.Errorf("n %d, %d sent from %d: %v", n, time, from, got)
				}
			}
		}
	}
}

// P12.2: of each two of local and a tally's least time the lesser one is told, at one process and at two of them.
func TestLeastOfBoth(t *testing.T) {
	for _, local := range times() {
		for _, time := range times() {
			k, l := tokenOf(t, 1), tallies(t, 1)
			k.turn(l)
			l[0].sent(time)
			if got := k.pass(l, local); got != over(min(time, local, 1<<62)) {
				t.Errorf("local %d, %d sent: %v", local, time, got)
			}
			k, l = tokenOf(t, 2), tallies(t, 2)
			k.turn(l)
			l[1].sent(time)
			if got := k.pass(l, local, 77); got != over(min(time, local, 77)) {
				t.Errorf("local %d and 77, %d sent from 1: %v", local, time, got)
			}
		}
	}
}

// P12.2: the least is told once all are visited, not ahead of it, even if the sum is 0 all the way.
func TestNothingToldAheadOfTheLast(t *testing.T) {
	for _, n := range sizes()[1:] {
		k, l := tokenOf(t, n), tallies(t, n)
		k.turn(l)
		for i, x := range l {
			want := notOver()
			if i == n-1 {
				want = over(4)
			}
			if got := k.visit(x, 4); got != want {
				t.Errorf("n %d, at %d: %v", n, i, got)
			}
			if is := i < n-1; k.token.Counting() != is {
				t.Errorf("n %d, behind %d: counting %t", n, i, !is)
			}
		}
	}
}

// P12.2: the token asks for no tally of its own at each place: one that is visited twice turns twice, and is counted twice.
func TestTheSameTallyTwice(t *testing.T) {
	k, x, y := tokenOf(t, 3), tally(t), tally(t)
	l := []both{x, y, x}
	y.sent(6, 6)
	k.turn(l)
	if x.tally.Colour() != 0 || y.tally.Colour() != 1 {
		t.Errorf("turned: %v, %v", x.tally, y.tally)
	}
	if got := k.pass(l, 7); got != notOver() {
		t.Errorf("0, 2, 0: %v", got)
	}
	x.got(1) // the colour that x does not have, as it turned twice
	if got := k.pass(l, 7); got != over(7) {
		t.Errorf("-1, 2, -1: %v", got)
	}
}

// P12.2: a token may find the same tally at all places.
func TestOneTallyAtAllPlaces(t *testing.T) {
	for _, n := range sizes() {
		k, x := tokenOf(t, n), tally(t)
		l := make([]both, n)
		for i := range l {
			l[i] = x
		}
		k.turn(l)
		x.sent(3)
		if x.tally.Colour() != n%2 {
			t.Errorf("turned %d times: %v", n, x.tally)
		}
		if got := k.pass(l, 8); got != over(3) {
			t.Errorf("n %d: %v", n, got)
		}
		k.turn(l)
		want := notOver() // where it turned so often, what it sent is of the colour that is counted
		if n%2 == 0 {
			want = over(8)
		}
		if got := k.pass(l, 8); got != want {
			t.Errorf("n %d, the next round: %v", n, got)
		}
	}
}

// P12.2: two tokens that go to the same tallies know nothing of each other.
func TestTwoTokens(t *testing.T) {
	a, b, l := tokenOf(t, 2), tokenOf(t, 2), tallies(t, 2)
	a.turn(l)
	if b.token.Counting() || b.token.At() != 0 {
		t.Errorf("the one that went nowhere: %v", b.token)
	}
	b.visit(l[0], 3)
	a.visit(l[0], 5)
	a.check()
	b.check()
	b.visit(l[1], 3)
	if got := a.visit(l[1], 8); got != over(5) {
		t.Errorf("the first one: %v", got)
	}
	if got := b.pass(l, 3); got != over(3) {
		t.Errorf("the second one: %v", got)
	}
}

// P12.2: a token that was copied goes on by itself, and so does the one that it was copied from.
func TestCopiedToken(t *testing.T) {
	a, l := tokenOf(t, 2), tallies(t, 2)
	a.turn(l)
	a.visit(l[0], 5)
	copied := *a.token
	if got := answered(copied.Visit(l[1].tally, 8)); got != over(5) || copied.Counting() {
		t.Errorf("the copy: %v", got)
	}
	a.check()
	if got := a.visit(l[1], 2); got != over(2) {
		t.Errorf("the one it is of: %v", got)
	}
}

// refuse visits x, which is no tally, with each local time: ErrZero, and the token is as it was.
func (b bothTokens) refuse(x *Tally) {
	b.t.Helper()
	for _, local := range times() {
		if got := answered(b.token.Visit(x, local)); got != (visited{e: 7}) {
			b.t.Errorf("of %d, at %d, local %d, of %v: %v", b.plain.n, b.token.At(), local, x, got)
		}
		b.check()
	}
}

// P12.3: ErrZero of a tally that is nil or that no call made, at each place of each part; the token goes on as if it was not asked.
func TestVisitOfNoTally(t *testing.T) {
	for name, x := range none() {
		for _, n := range sizes() {
			k, l := tokenOf(t, n), tallies(t, n)
			pass := func() (last visited) {
				for _, y := range l {
					k.refuse(x)
					last = k.visit(y, 9)
				}
				k.refuse(x)
				return last
			}
			l[0].sent(5)
			turned, first := pass(), pass()
			l[n-1].got(0)
			second := pass()
			if turned != notOver() || first != notOver() || second != over(9) {
				t.Errorf("%s, n %d: turning %v, counting %v, then %v", name, n, turned, first, second)
			}
			if turned, first = pass(), pass(); turned != notOver() || first != over(9) {
				t.Errorf("%s, n %d, the next round: turning %v, counting %v", name, n, turned, first)
			}
		}
	}
}

// P12.3: a tally that no call made is as it was behind a visit of either part.
func TestUnmadeTallyStays(t *testing.T) {
	k, x := tokenOf(t, 1), new(Tally)
	k.refuse(x)
	k.turn(tallies(t, 1))
	k.refuse(x)
	if *x != (Tally{}) {
		t.Errorf("it changed: %v", x)
	}
}

// P12.3: each call of a token that is nil or that no call made; the tally stays as it was, and so does the token.
func TestNoToken(t *testing.T) {
	refused, _ := NewToken(17)
	unmade := new(Token)
	for name, k := range map[string]*Token{"nil": nil, "unmade": unmade, "refused": refused} {
		x := tally(t)
		x.sent(5)
		for range 3 {
			if k.At() != 0 || k.Counting() {
				t.Errorf("%s: at %d, counting %t", name, k.At(), k.Counting())
			}
			for _, y := range []*Tally{x.tally, nil, {}} {
				for _, local := range times() {
					if got := answered(k.Visit(y, local)); got != (visited{e: 7}) {
						t.Errorf("%s, Visit of %v, local %d: %v", name, y, local, got)
					}
				}
			}
			x.check()
		}
	}
	if *unmade != (Token{}) {
		t.Errorf("an unmade token changed: %v", unmade)
	}
}
