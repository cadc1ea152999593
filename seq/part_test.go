package seq

import (
	"math"
	"reflect"
	"slices"
	"testing"

	"isochron/api"
)

// expectPart holds Part against what it must be; hold has all counts.
func expectPart(t *testing.T, what string, m api.Model, n int, want api.Result) {
	t.Helper()
	if got := answerOf(Part(m, n)); !reflect.DeepEqual(got, answerOf(want, api.OK)) {
		t.Fatalf("%s: Part of %d = %v, want %v", what, n, got, want)
	}
	hold(t, m)
}

// expectLeft holds Left against what it must be.
func expectLeft(t *testing.T, what string, m api.Model, n int, want ...api.Message) {
	t.Helper()
	if got, e := Left(m, n); e != api.OK || !slices.Equal(got, want) {
		t.Fatalf("%s: Left of %d = %v, %d, want %v", what, n, got, e, want)
	}
}

// line is a model of so many starts, each of which sends one thing that is done as well, behind all starts.
func line(starts int) (api.Model, []api.Done) {
	m := modelOf(slices.Concat(countIt(), send(0, 100)), countIt())
	m.Links = []api.Link{{From: 0, To: 1, Look: 100}}
	var history []api.Done
	for k := range starts {
		m.Starts = append(m.Starts, api.Start{To: 0, Time: int64(k), Value: int64(k)})
		history = append(history, done(int64(k), -1, k, 0, int64(k)))
	}
	for k := range starts {
		history = append(history, done(int64(100+k), 0, k, 1, int64(k)))
	}
	return m, history
}

// P14.2: counts below 0 are ErrArg, for Part and for Left, and only of a model that may be.
func TestCountsBelowZero(t *testing.T) {
	m, _ := line(3)
	for _, m := range []api.Model{m, counters(1)} {
		for _, n := range noCounts() {
			if r, e := Part(m, n); e != api.ErrArg || !reflect.DeepEqual(r, api.Result{}) {
				t.Errorf("Part of %d = %v, %d", n, r, e)
			}
			if l, e := Left(m, n); e != api.ErrArg || len(l) != 0 {
				t.Errorf("Left of %d = %v, %d", n, l, e)
			}
		}
		m.Links = []api.Link{itself(0, 0)}
		for _, n := range append(noCounts(), 0, 1) {
			if r, e := Part(m, n); e != api.ErrLink || !reflect.DeepEqual(r, api.Result{}) {
				t.Errorf("a wrong link: Part of %d = %v, %d", n, r, e)
			}
			if l, e := Left(m, n); e != api.ErrLink || len(l) != 0 {
				t.Errorf("a wrong link: Left of %d = %v, %d", n, l, e)
			}
		}
	}
}

// P14.2: at each count up to the number of events StopNot, behind that as Run.
func TestPart(t *testing.T) {
	for _, starts := range []int{1, 2, 6} {
		m, history := line(starts)
		for n := range history {
			states := counted(2, history[:n])
			states[0].Sent = min(n, starts)
			expectPart(t, "a part", m, n, api.Result{History: history[:n], States: states, Stop: api.StopNot})
		}
		states := counted(2, history)
		states[0].Sent = starts
		expectPart(t, "all events", m, len(history), api.Result{History: history, States: states, Stop: api.StopNot})
		whole := api.Result{History: history, States: states, Stop: api.StopDone}
		for _, n := range []int{len(history) + 1, 50, 4095, 4096, 4097, 1 << 32, math.MaxInt - 1, math.MaxInt} {
			expectPart(t, "more than there are", m, n, whole)
		}
		expect(t, "the whole", m, whole)
	}
}

// P14.2: of no events at all: StopNot, also where nothing is to be done, and where nothing may be done.
func TestPartOfNothing(t *testing.T) {
	for n := 1; n <= 16; n++ {
		m := counters(n)
		want := api.Result{States: make([]api.State, n), Stop: api.StopNot}
		expectPart(t, "no starts", m, 0, want)
		m.Starts, m.End = []api.Start{{Time: 9}}, 5
		expectPart(t, "a start behind End", m, 0, want)
		m.End = 9
		expectPart(t, "a start", m, 0, want)
		m.Budget = 0
		expectPart(t, "no budget", m, 0, want)
		want.Stop = api.StopFull
		expectPart(t, "no budget, one is asked for", m, 1, want)
		m.End, want.Stop = 8, api.StopDone
		expectPart(t, "no budget, a start behind End, one is asked for", m, 1, want)
	}
}

// P14.2: StopNot ahead of StopFull and StopDone, where so many events were done.
func TestPartWhereTheBudgetEnds(t *testing.T) {
	for _, starts := range []int{1, 3} {
		m, history := line(starts)
		for budget := range len(history) + 2 {
			m.Budget = budget
			for n := range len(history) + 2 {
				done := min(n, budget, len(history))
				states := counted(2, history[:done])
				states[0].Sent = min(done, starts)
				want := api.Result{History: history[:done], States: states, Stop: api.StopDone}
				switch {
				case n <= min(budget, len(history)):
					want.Stop = api.StopNot
				case budget < len(history):
					want.Stop = api.StopFull
				}
				expectPart(t, "Budget "+text(budget), m, n, want)
			}
		}
	}
}

// P14.2: what waits at each count: starts without their places as Uids, what was sent, in the order of keys.
func TestLeft(t *testing.T) {
	for _, starts := range []int{1, 2, 6} {
		m, history := line(starts)
		for n := range len(history) + 3 {
			var want []api.Message
			for k, x := range history {
				if k >= n && (k < starts || k-starts < n) {
					want = append(want, api.Message{Key: x.Key, To: x.To, Value: x.Value})
				}
			}
			expectLeft(t, "a line", m, n, want...)
		}
		expectLeft(t, "the greatest count", m, math.MaxInt)
	}
	for n := 1; n <= 16; n++ {
		m := counters(n)
		for _, count := range someCounts(0) {
			expectLeft(t, "no starts", m, count)
		}
	}
}

// P14.2: what waits is later than End too, and stands in order, however the starts were given.
func TestLeftBehindEnd(t *testing.T) {
	m := modelOf(slices.Concat(send(0, 30), send(0, 20)), nil)
	m.Links = []api.Link{{From: 0, To: 1, Look: 1}}
	m.End = 6
	m.Starts = []api.Start{start(1, 40, 1), start(0, 5, 2), start(1, api.MaxTime, 3), start(0, 6, 4), start(1, 7, 5), start(1, 26, 6), start(1, 7, 7)}
	five, six := message(5, -1, 1, 0, 2), message(6, -1, 3, 0, 4)
	sevens := []api.Message{message(7, -1, 4, 1, 5), message(7, -1, 6, 1, 7)}
	at26, at40, last := message(26, -1, 5, 1, 6), message(40, -1, 0, 1, 1), message(api.MaxTime, -1, 2, 1, 3)
	expectLeft(t, "at 0", m, 0, five, six, sevens[0], sevens[1], at26, at40, last)
	expectLeft(t, "at 1", m, 1, six, sevens[0], sevens[1], message(25, 0, 1, 1, 2), at26, message(35, 0, 0, 1, 2), at40, last)
	for _, n := range []int{2, 3, 100, math.MaxInt} {
		expectLeft(t, "at the end", m, n, sevens[0], sevens[1], message(25, 0, 1, 1, 2), at26, message(26, 0, 3, 1, 4), message(35, 0, 0, 1, 2), message(36, 0, 2, 1, 4), at40, last)
	}
	m.Budget = 1
	expectLeft(t, "the budget is spent", m, 5, six, sevens[0], sevens[1], message(25, 0, 1, 1, 2), at26, message(35, 0, 0, 1, 2), at40, last)
	hold(t, m)
}

// P14.3: a part's history, states and what waits are what a run by hand, one event at a time, comes to.
func TestPartsGrow(t *testing.T) {
	m, history := line(5)
	var last api.Result
	for n := range len(history) + 1 {
		r, _ := Part(m, n)
		left, _ := Left(m, n)
		if len(r.History) != n || !slices.Equal(r.History[:len(last.History)], last.History) {
			t.Fatalf("%d events: %v", n, r.History)
		}
		if n < len(history) && (len(left) == 0 || left[0].Key != history[n].Key) {
			t.Fatalf("behind %d events %v waits first, %v is done next", n, left[0], history[n])
		}
		last = r
	}
}
