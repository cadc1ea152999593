package seq

import (
	"math"
	"slices"
	"testing"

	"isochron/api"
	below "isochron/draw"
)

// P14.1: the document's example.
func TestExample(t *testing.T) {
	m := modelOf(send(0, 2))
	m.Links, m.Starts, m.End = []api.Link{itself(0, 1)}, []api.Start{{Time: 1, Value: 7}}, 6
	expect(t, "the example", m, api.Result{
		History: []api.Done{done(1, -1, 0, 0, 7), done(3, 0, 0, 0, 7), done(5, 0, 1, 0, 7)},
		States:  []api.State{state(0, 3)},
		Stop:    api.StopDone,
	})
	expectLeft(t, "the example", m, 3, message(7, 0, 2, 0, 7))
}

// flaws are models that may not be, each with the error of model.Check.
func flaws() []struct {
	why   string
	wrong func(m *api.Model)
	want  api.Errno
} {
	return []struct {
		why   string
		wrong func(m *api.Model)
		want  api.Errno
	}{
		{"no programs", func(m *api.Model) { m.Progs = nil }, api.ErrArg},
		{"17 programs", func(m *api.Model) { m.Progs = make([][]api.Instr, 17) }, api.ErrArg},
		{"End below 0", func(m *api.Model) { m.End = -1 }, api.ErrArg},
		{"End behind the last time", func(m *api.Model) { m.End = api.Never }, api.ErrArg},
		{"Budget below 0", func(m *api.Model) { m.Budget = -1 }, api.ErrArg},
		{"Budget above MaxEvents", func(m *api.Model) { m.Budget = api.MaxEvents + 1 }, api.ErrArg},
		{"no kind of instruction", func(m *api.Model) { m.Progs[1] = []api.Instr{{Op: 17}} }, api.ErrProg},
		{"a program that is too long", func(m *api.Model) { m.Progs[0] = make([]api.Instr, api.MaxCode+1) }, api.ErrProg},
		{"two links alike", func(m *api.Model) { m.Links = append(m.Links, m.Links[0]) }, api.ErrLink},
		{"a Look of 0", func(m *api.Model) { m.Links[0].Look = 0 }, api.ErrLink},
		{"a link to no process", func(m *api.Model) { m.Links[0].To = 3 }, api.ErrLink},
		{"too many starts", func(m *api.Model) { m.Starts = make([]api.Start, api.MaxEvents+1) }, api.ErrEvent},
		{"a start to no process", func(m *api.Model) { m.Starts[1].To = -1 }, api.ErrEvent},
		{"a start below 0", func(m *api.Model) { m.Starts[1].Time = -1 }, api.ErrEvent},
		{"a start at Never", func(m *api.Model) { m.Starts[0].Time = api.Never }, api.ErrEvent},
	}
}

func flawless() api.Model {
	m := modelOf(send(0, 5), countIt(), countIt())
	m.Links = []api.Link{{From: 0, To: 1, Look: 1}, {From: 1, To: 2, Look: 1}}
	m.Starts = []api.Start{{To: 0, Time: 3}, {To: 2, Time: 1}}
	return m
}

// P14.1, P14.2, P2: of a model that may not be model.Check's error, at all counts, those below 0 as well.
func TestFlaws(t *testing.T) {
	if r := hold(t, flawless()); r.e != api.OK || len(r.result.History) != 3 {
		t.Fatalf("the model without a flaw: %v", r)
	}
	for _, f := range flaws() {
		m := flawless()
		f.wrong(&m)
		expectError(t, f.why, m, f.want)
	}
	expectError(t, "nothing", api.Model{}, api.ErrArg)
	for _, f := range flaws()[2:] {
		for _, g := range flaws()[2:] {
			m := flawless()
			f.wrong(&m)
			g.wrong(&m)
			expectError(t, f.why+", "+g.why, m, min(f.want, g.want))
		}
	}
}

// P14.1, P3: without starts it is done at once, and all states are zero.
func TestNoStarts(t *testing.T) {
	for n := 1; n <= 16; n++ {
		for _, budget := range []int{0, 1, 4096} {
			m := counters(n)
			m.Budget = budget
			want := api.Result{States: make([]api.State, n), Stop: api.StopDone}
			expect(t, "no starts", m, want)
			m.Starts, m.Links, m.End = []api.Start{}, []api.Link{}, 0
			expect(t, "an empty list of starts", m, want)
			m.Progs = make([][]api.Instr, n)
			expect(t, "programs without instructions", m, want)
		}
	}
}

// P14.1: one start, to each of the processes; the others have a zero state.
func TestOneStart(t *testing.T) {
	for n := 1; n <= 16; n++ {
		for to := range n {
			m := counters(n)
			m.Starts = []api.Start{{To: to, Time: 5, Value: 4}}
			history := []api.Done{done(5, -1, 0, to, 4)}
			expect(t, "one start", m, api.Result{History: history, States: counted(n, history), Stop: api.StopDone})
			m.Progs = make([][]api.Instr, n)
			expect(t, "one start, no instructions", m, api.Result{History: history, States: make([]api.State, n), Stop: api.StopDone})
		}
	}
}

// P14.1: starts of the same time, to one process and to several: in the order of the starts.
func TestStartsAtTheSameTime(t *testing.T) {
	for n := 1; n <= 16; n++ {
		m := counters(n)
		var history []api.Done
		for k := range 20 {
			m.Starts = append(m.Starts, api.Start{To: k * 5 % n, Time: 8, Value: int64(k)})
			history = append(history, done(8, -1, k, k*5%n, int64(k)))
		}
		expect(t, "all at 8", m, api.Result{History: history, States: counted(n, history), Stop: api.StopDone})
	}
}

// P14.1: starts that are not given in the order of their times are done in that order, those of one time as they were given.
func TestStartsInAnyOrder(t *testing.T) {
	m := counters(3)
	m.Starts = []api.Start{start(1, 9, 1), start(0, 4, 2), start(2, 9, 3), start(2, 0, 4), start(0, 4, 5), start(1, 12, 6), start(1, 0, 7)}
	history := []api.Done{
		done(0, -1, 3, 2, 4), done(0, -1, 6, 1, 7), done(4, -1, 1, 0, 2), done(4, -1, 4, 0, 5),
		done(9, -1, 0, 1, 1), done(9, -1, 2, 2, 3), done(12, -1, 5, 1, 6),
	}
	expect(t, "any order", m, api.Result{History: history, States: counted(3, history), Stop: api.StopDone})
	m = counters(4)
	var falling []api.Done
	for k := range 50 {
		m.Starts = append(m.Starts, api.Start{To: k % 4, Time: int64(100 - k), Value: int64(-k)})
		falling = slices.Insert(falling, 0, done(int64(100-k), -1, k, k%4, int64(-k)))
	}
	expect(t, "falling", m, api.Result{History: falling, States: counted(4, falling), Stop: api.StopDone})
}

// P14.1: an event at End is done, one behind it is not, wherever End is.
func TestEnd(t *testing.T) {
	for _, end := range []int64{0, 1, 2, 50, 1 << 31, 1 << 32, api.MaxTime - 1, api.MaxTime} {
		m := counters(2)
		m.End = end
		m.Starts = []api.Start{{To: 1, Time: end, Value: 3}}
		history := []api.Done{done(end, -1, 0, 1, 3)}
		if end < api.MaxTime {
			m.Starts = append(m.Starts, api.Start{To: 0, Time: end + 1, Value: 4}, api.Start{To: 0, Time: api.MaxTime})
		}
		if end > 0 {
			m.Starts = append(m.Starts, api.Start{To: 1, Time: end - 1, Value: 5})
			history = slices.Insert(history, 0, done(end-1, -1, len(m.Starts)-1, 1, 5))
		}
		expect(t, "around End", m, api.Result{History: history, States: counted(2, history), Stop: api.StopDone})
		m.Starts = m.Starts[1:]
		if end < api.MaxTime {
			m.Starts = m.Starts[:2]
			expect(t, "all behind End", m, api.Result{States: make([]api.State, 2), Stop: api.StopDone})
		}
	}
}

// P14.1: what an event sends is done, if it is at End, and not, if it is behind that.
func TestSentAroundEnd(t *testing.T) {
	for _, at := range []int64{0, 30, api.MaxTime - 5} {
		m := modelOf(send(0, 5), countIt())
		m.Links, m.Starts = []api.Link{{From: 0, To: 1, Look: 5}}, []api.Start{{To: 0, Time: at, Value: 6}}
		first, next := done(at, -1, 0, 0, 6), done(at+5, 0, 0, 1, 6)
		for _, m.End = range []int64{at, at + 4} {
			expect(t, "behind End", m, api.Result{History: []api.Done{first}, States: []api.State{state(0, 1), {}}, Stop: api.StopDone})
			expectLeft(t, "behind End", m, 50, message(at+5, 0, 0, 1, 6))
		}
		m.End = at + 5
		expect(t, "at End", m, api.Result{History: []api.Done{first, next}, States: []api.State{state(0, 1), state(0, 0, 1, 6)}, Stop: api.StopDone})
		expectLeft(t, "at End", m, 50)
	}
}

// P14.1: the budget is spent where one more event may be done, and only there.
func TestBudget(t *testing.T) {
	for _, events := range []int{0, 1, 2, 5, 40} {
		m := counters(3)
		var all []api.Done
		for k := range events {
			m.Starts = append(m.Starts, api.Start{To: k % 3, Time: int64(k / 2), Value: 9})
			all = append(all, done(int64(k/2), -1, k, k%3, 9))
		}
		for _, m.Budget = range append(someCounts(events)[:5], 4096) {
			m.Budget = min(m.Budget, 4096)
			history, stop := all[:min(events, m.Budget)], api.StopDone
			if m.Budget < events {
				stop = api.StopFull
			}
			expect(t, text(events)+" events, Budget "+text(m.Budget), m, api.Result{History: history, States: counted(3, history), Stop: stop})
		}
	}
}

// P14.1: with the budget spent, what is behind End makes no StopFull.
func TestBudgetAndEnd(t *testing.T) {
	m := counters(1)
	m.End = 20
	for _, end := range []int64{5, 20, 21, 22} {
		m.Starts = []api.Start{{Time: 3, Value: 1}, {Time: 4, Value: 1}, {Time: end}}
		history := []api.Done{done(3, -1, 0, 0, 1), done(4, -1, 1, 0, 1)}
		m.Budget = 2
		stop := api.StopDone
		if end <= 20 {
			stop = api.StopFull
		}
		expect(t, "a third at "+text(int(end)), m, api.Result{History: history, States: counted(1, history), Stop: stop})
	}
	m.Starts, m.Budget = []api.Start{{Time: 21}}, 0
	expect(t, "no budget, one behind End", m, api.Result{States: make([]api.State, 1), Stop: api.StopDone})
	m.Starts[0].Time = 20
	expect(t, "no budget, one at End", m, api.Result{States: make([]api.State, 1), Stop: api.StopFull})
}

// P14.1: as many events as MaxEvents, and one more.
func TestMaxEvents(t *testing.T) {
	m := modelOf(slices.Concat(countIt(), send(0, 1)))
	m.Links, m.Starts, m.Budget = []api.Link{itself(0, 1)}, []api.Start{{Value: 2}}, api.MaxEvents
	for _, m.End = range []int64{api.MaxEvents - 2, api.MaxEvents - 1, api.MaxEvents, api.MaxTime} {
		r, e := Run(m)
		events := min(m.End+1, api.MaxEvents)
		stop := api.StopDone
		if m.End >= api.MaxEvents {
			stop = api.StopFull
		}
		if e != api.OK || r.Stop != stop || int64(len(r.History)) != events || r.States[0] != state(0, int(events), events, 2*events) {
			t.Errorf("End %d: %d events, %v, stop %d, %d", m.End, len(r.History), r.States, r.Stop, e)
		}
		for k, x := range r.History[1:] {
			if x != done(int64(k+1), 0, k, 0, 2) {
				t.Fatalf("event %d: %v", k+1, x)
			}
		}
	}
}

// P14.1: events that send nothing, up to MaxSends, and no more than that.
func TestSends(t *testing.T) {
	for sends := range 12 {
		m := modelOf(slices.Concat(countIt()), countIt())
		for range sends {
			m.Progs[0] = slices.Concat(m.Progs[0], send(0, 3))
		}
		m.Links, m.Starts = []api.Link{{From: 0, To: 1, Look: 3}}, []api.Start{{To: 0, Time: 10, Value: -4}}
		history := []api.Done{done(10, -1, 0, 0, -4)}
		for k := range min(sends, 8) {
			history = append(history, done(13, 0, k, 1, -4))
		}
		states := counted(2, history)
		states[0].Sent = min(sends, 8)
		expect(t, text(sends)+" sends", m, api.Result{History: history, States: states, Stop: api.StopDone})
		m.Links = nil
		expect(t, "no links", m, api.Result{History: history[:1], States: counted(2, history[:1]), Stop: api.StopDone})
	}
}

// P14.1: an event goes to the process of its link, wherever that stands, also to the one that sends it.
func TestWhereTo(t *testing.T) {
	for n := 1; n <= 16; n++ {
		for _, from := range []int{0, n / 2, n - 1} {
			for to := range n {
				m := counters(n)
				m.Progs[from] = slices.Concat(countIt(), []api.Instr{{Op: api.OpTime, A: 8}, {Op: api.OpZero, A: 8, B: 8}, {Op: api.OpJump, A: 99}}, send(0, 6))
				m.Progs[from][6].A = len(m.Progs[from]) // what is sent sends nothing
				m.Links = []api.Link{{From: from, To: to, Look: 2, Loose: to%2 == 0}}
				m.Starts = []api.Start{{To: from, Value: 11}}
				history := []api.Done{done(0, -1, 0, from, 11), done(6, from, 0, to, 11)}
				states := counted(n, history)
				states[from].Sent = 1
				expect(t, text(from)+" to "+text(to)+" of "+text(n), m, api.Result{History: history, States: states, Stop: api.StopDone})
			}
		}
	}
}

// P14.1: links are chosen by their places among those of the process.
func TestWhichLink(t *testing.T) {
	m := modelOf(countIt(), slices.Concat(send(1, 4), send(0, 4), send(2, 5), send(4, 6), send(-1, 7)), countIt())
	m.Links = []api.Link{{From: 0, To: 1, Look: 9}, {From: 1, To: 2, Look: 4}, {From: 2, To: 1, Look: 9}, {From: 1, To: 0, Look: 4}, {From: 0, To: 2, Look: 9}}
	m.Starts = []api.Start{{To: 1, Time: 1, Value: 8}}
	history := []api.Done{done(1, -1, 0, 1, 8), done(5, 1, 0, 0, 8), done(5, 1, 1, 2, 8), done(6, 1, 2, 2, 8), done(7, 1, 3, 2, 8), done(8, 1, 4, 0, 8)}
	states := counted(3, history)
	states[1] = state(0, 5)
	expect(t, "which link", m, api.Result{History: history, States: states, Stop: api.StopDone})
}

// P14.1: what is sent at the time of one that waits stands behind it or ahead of it by From, then by Seq.
func TestSentAtTheTimeOfAnother(t *testing.T) {
	m := modelOf(slices.Concat(countIt(), send(0, 5)), slices.Concat(countIt(), send(0, 3), send(0, 3)), countIt())
	m.Links = []api.Link{{From: 0, To: 2, Look: 1}, {From: 1, To: 2, Look: 1}}
	m.Starts = []api.Start{{To: 1, Time: 7, Value: 1}, {To: 0, Time: 5, Value: 2}, {To: 2, Time: 10, Value: 3}, {To: 2, Time: 10, Value: 4}}
	history := []api.Done{
		done(5, -1, 1, 0, 2), done(7, -1, 0, 1, 1), done(10, -1, 2, 2, 3), done(10, -1, 3, 2, 4),
		done(10, 0, 0, 2, 2), done(10, 1, 0, 2, 1), done(10, 1, 1, 2, 1),
	}
	states := counted(3, history)
	states[0].Sent, states[1].Sent = 1, 2
	expect(t, "all at 10", m, api.Result{History: history, States: states, Stop: api.StopDone})
}

// P14.1: values of 64 bits go through as they are, and sums of them wrap round.
func TestValues(t *testing.T) {
	for _, value := range []int64{math.MinInt64, math.MinInt64 + 1, -1 << 32, -1, 0, 1, 1 << 31, 1 << 32, api.MaxTime, api.Never, math.MaxInt64 - 1, math.MaxInt64} {
		m := modelOf(slices.Concat(countIt(), send(0, 1)), countIt())
		m.Links, m.Starts = []api.Link{{From: 0, To: 1, Look: 1}}, []api.Start{{Value: value}, {Value: value}}
		history := []api.Done{done(0, -1, 0, 0, value), done(0, -1, 1, 0, value), done(1, 0, 0, 1, value), done(1, 0, 1, 1, value)}
		states := counted(2, history)
		states[0].Sent = 2
		expect(t, "a value", m, api.Result{History: history, States: states, Stop: api.StopDone})
	}
}

// P14.1: delays as great as times may be: an event at the last time is done, one behind that is the fault ErrTime.
func TestLateSends(t *testing.T) {
	for _, at := range []int64{0, 1, 1 << 32, api.MaxTime - 1} {
		m := modelOf(sendBehindValue(0), countIt())
		m.Links, m.End = []api.Link{{From: 0, To: 1, Look: 1}}, api.MaxTime
		delay := api.MaxTime - at
		m.Starts = []api.Start{{To: 0, Time: at, Value: delay}}
		history := []api.Done{done(at, -1, 0, 0, delay), done(api.MaxTime, 0, 0, 1, delay)}
		expect(t, "at the last time", m, api.Result{History: history, States: []api.State{state(0, 1), state(0, 0, 1, delay)}, Stop: api.StopDone})
		for _, m.Starts[0].Value = range []int64{delay + 1, api.Never, math.MaxInt64} {
			expect(t, "behind the last time", m, api.Result{States: make([]api.State, 2), Stop: api.StopTime})
			expectLeft(t, "behind the last time", m, 50, message(at, -1, 0, 0, m.Starts[0].Value))
		}
	}
	m := modelOf(send(0, 1))
	m.Links, m.End, m.Starts = []api.Link{itself(0, 1)}, api.MaxTime, []api.Start{{Time: api.MaxTime - 1, Value: 3}}
	history := []api.Done{done(api.MaxTime-1, -1, 0, 0, 3)}
	expect(t, "on from the last time", m, api.Result{History: history, States: []api.State{state(0, 1)}, Stop: api.StopTime})
	m.Links[0].Look = 2
	expect(t, "too soon, and behind the last time", m, api.Result{States: make([]api.State, 1), Stop: api.StopLook})
}

// P14.1, P1: an event whose handler would never end is done, with what it did and sent until its fuel was gone.
func TestNoFuel(t *testing.T) {
	m := modelOf([]api.Instr{{Op: api.OpSet, A: 9, B: 1}, {Op: api.OpAdd, A: 0, B: 0, C: 9}, {Op: api.OpSend, A: 9, B: 9, C: 0}, {Op: api.OpJump, A: 1}})
	m.Links, m.Starts, m.End = []api.Link{itself(0, 1)}, []api.Start{start(0, 4, 2)}, 4
	history := []api.Done{done(4, -1, 0, 0, 2)}
	expect(t, "no fuel", m, api.Result{History: history, States: []api.State{state(0, 8, (4096-1+2)/3)}, Stop: api.StopDone})
	var left []api.Message
	for k := range 8 {
		left = append(left, message(5, 0, k, 0, int64(k+1)))
	}
	expectLeft(t, "no fuel", m, 9, left...)
}

// P14.1: draws and the names of what is sent go on from event to event, each process for itself.
func TestDrawsAndNamesGoOn(t *testing.T) {
	m := modelOf(slices.Concat(draw(0, 1000), draw(1, 1<<30), send(0, 100)), slices.Concat(draw(0, 1000), send(0, 200), send(0, 200)), nil)
	m.Links = []api.Link{{From: 0, To: 2, Look: 1}, {From: 1, To: 2, Look: 1}}
	var history, later []api.Done
	for k := range 6 {
		m.Starts = append(m.Starts, api.Start{To: k % 2, Time: int64(k), Value: int64(k)})
		history = append(history, done(int64(k), -1, k, k%2, int64(k)))
		if k%2 == 0 {
			history = append(history, done(int64(k+100), 0, k/2, 2, int64(k)))
		} else {
			later = append(later, done(int64(k+200), 1, k-1, 2, int64(k)), done(int64(k+200), 1, k, 2, int64(k)))
		}
	}
	slices.SortFunc(history, func(a, b api.Done) int { return plainOrder(a.Key, b.Key) })
	for _, m.Seed = range []uint64{0, 77, math.MaxUint64} {
		states := []api.State{
			state(6, 3, below.Below(m.Seed, 0, 4, 1000), below.Below(m.Seed, 0, 5, 1<<30)),
			state(3, 6, below.Below(m.Seed, 1, 2, 1000)),
			{},
		}
		expect(t, "draws", m, api.Result{History: slices.Concat(history, later), States: states, Stop: api.StopDone})
	}
}
