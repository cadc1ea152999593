package seq

import (
	"slices"
	"testing"

	"isochron/api"
)

// faulty is a fault, the handler that ends with it, and why a run ends there.
type faulty struct {
	name string
	prog []api.Instr
	stop int
}

func faulties() []faulty {
	return []faulty{{"ErrTime", tooFar(), api.StopTime}, {"ErrLook", tooSoon(), api.StopLook}}
}

// faultAt is a model of so many starts, the one at a place to a process that ends with that fault; and what was done ahead of it.
func faultAt(f faulty, events, at int) (api.Model, []api.Done) {
	m := modelOf(slices.Concat(countIt(), send(0, 500)), f.prog, nil)
	m.Links = []api.Link{{From: 0, To: 2, Look: 1}, {From: 1, To: 2, Look: 1}}
	var ahead []api.Done
	for k := range events {
		s := api.Start{To: 0, Time: int64(k), Value: 4}
		if k == at {
			s.To = 1
		}
		if k < at {
			ahead = append(ahead, done(int64(k), -1, k, 0, 4))
		}
		m.Starts = append(m.Starts, s)
	}
	return m, ahead
}

func faultStates(ahead []api.Done) []api.State {
	states := counted(3, ahead)
	states[0].Sent = len(ahead)
	return states
}

// P14.1: a fault of the first event, of one amid them, of the last one: that event is not done, and its process's state is the one ahead of it.
func TestFaults(t *testing.T) {
	for _, f := range faulties() {
		for _, events := range []int{1, 2, 7} {
			for at := range events {
				m, ahead := faultAt(f, events, at)
				expect(t, f.name+" at "+text(at)+" of "+text(events), m, api.Result{History: ahead, States: faultStates(ahead), Stop: f.stop})
				left := []api.Message{message(int64(at), -1, at, 1, 4)}
				for k := at + 1; k < events; k++ {
					left = append(left, message(int64(k), -1, k, 0, 4))
				}
				for k := range at {
					left = append(left, message(int64(500+k), 0, k, 2, 4))
				}
				expectLeft(t, f.name, m, events, left...)
			}
		}
	}
}

// P14.1: where the budget is spent, the fault of the event that would be next is not come to.
func TestFaultAndBudget(t *testing.T) {
	for _, f := range faulties() {
		for at := range 5 {
			m, ahead := faultAt(f, 5, at)
			m.Budget = at
			expect(t, f.name+", the budget is spent", m, api.Result{History: ahead, States: faultStates(ahead), Stop: api.StopFull})
			m.Budget = at + 1
			expect(t, f.name+", room for one more", m, api.Result{History: ahead, States: faultStates(ahead), Stop: f.stop})
			if at > 0 {
				m.Budget = at - 1
				expect(t, f.name+", the budget is spent ahead of it", m, api.Result{History: ahead[:at-1], States: faultStates(ahead[:at-1]), Stop: api.StopFull})
			}
		}
	}
}

// P14.1: the fault of an event behind End is not come to, that of one at End is.
func TestFaultAndEnd(t *testing.T) {
	for _, f := range faulties() {
		for at := 1; at < 5; at++ {
			m, ahead := faultAt(f, 5, at)
			m.End = int64(at - 1)
			expect(t, f.name+" behind End", m, api.Result{History: ahead, States: faultStates(ahead), Stop: api.StopDone})
			m.Budget = at
			expect(t, f.name+" behind End, the budget is spent", m, api.Result{History: ahead, States: faultStates(ahead), Stop: api.StopDone})
			m.End, m.Budget = int64(at), 50
			expect(t, f.name+" at End", m, api.Result{History: ahead, States: faultStates(ahead), Stop: f.stop})
		}
	}
}

// P14.2: where so many events were done it ends with StopNot, whatever is next.
func TestFaultAndCount(t *testing.T) {
	for _, f := range faulties() {
		for at := range 5 {
			m, ahead := faultAt(f, 5, at)
			for _, m.Budget = range []int{at, 50} {
				expectPart(t, f.name+" is next", m, at, api.Result{History: ahead, States: faultStates(ahead), Stop: api.StopNot})
			}
			for _, n := range []int{at + 1, 5, 6} {
				expectPart(t, f.name+" is come to", m, n, api.Result{History: ahead, States: faultStates(ahead), Stop: f.stop})
			}
		}
	}
}

// P14.1: of two faults that are there, the first event's is told; the process of a fault keeps what it did ahead of that.
func TestTwoFaults(t *testing.T) {
	m := modelOf(tooFar(), tooSoon())
	m.Links = []api.Link{itself(0, 1), itself(1, 1)}
	m.Starts = []api.Start{{To: 1, Time: 6}, {To: 0, Time: 6}}
	expect(t, "too soon first", m, api.Result{States: make([]api.State, 2), Stop: api.StopLook})
	m.Starts[0].Time = 7
	expect(t, "too far first", m, api.Result{States: make([]api.State, 2), Stop: api.StopTime})
	m = modelOf(slices.Concat(countIt(), draw(2, 9), send(0, 1), sendBehindValue(0)))
	m.Links = []api.Link{itself(0, 1)}
	m.Starts = []api.Start{{Time: 3, Value: 40}, {Time: 5, Value: 0}}
	r := hold(t, m).result
	first := []api.Done{done(3, -1, 0, 0, 40), done(4, 0, 0, 0, 40)}
	if r.Stop != api.StopLook || !slices.Equal(r.History, first) || r.States[0].Draws != 2 || r.States[0].Sent != 4 || r.States[0].Regs[0] != 2 || r.States[0].Regs[1] != 80 {
		t.Errorf("a fault behind events of the same process: %v", r)
	}
}

// P14.1: a fault tells its process and its number, and is found within what wraps it.
func TestFaultAsAnError(t *testing.T) {
	err := error(fault{process: 12, why: api.ErrTime})
	if err.Error() != "process 12: error 10" {
		t.Errorf("%q", err.Error())
	}
	if stop := stopOf(fault{process: 3, why: err}); stop != api.StopTime {
		t.Errorf("a wrapped fault: %d", stop)
	}
}
