package log

import (
	"iter"
	"slices"
	"sort"

	"isochron/api"
	"isochron/event"
	"isochron/vm"
)

// step is an entry without the state ahead of it, which is reckoned anew when it is asked for.
type step struct {
	event api.Message
	fault api.Errno
	sent  []api.Message
}

// entry is the step with the state ahead of it; the log may go on with its own list of what was sent.
func (x step) entry(ahead api.State) api.Entry {
	return api.Entry{Event: x.event, Before: ahead, Fault: x.fault, Sent: slices.Clone(x.sent)}
}

// stretch is a kept state and the steps from there up to the next kept state.
type stretch struct {
	kept  api.State
	steps []step
}

// reckoning tells the state ahead of the step at a place. It goes on from what it told last, so that places that rise are reckoned once each; they must not fall.
func (s stretch) reckoning(w api.World) func(place int) api.State {
	reached, state := 0, s.kept
	return func(place int) api.State {
		for ; reached < place; reached++ {
			state, _, _ = vm.Run(w, state, s.steps[reached].event)
		}
		return state
	}
}

// entries goes over the steps from that place on, the oldest first, as entries.
func (s stretch) entries(w api.World, from int) iter.Seq[api.Entry] {
	return func(yield func(api.Entry) bool) {
		ahead := s.reckoning(w)
		for place := from; place < len(s.steps); place++ {
			if !yield(s.steps[place].entry(ahead(place))) {
				return
			}
		}
	}
}

// place is how many of the steps are ahead of m. Their order is that of messages, so few are looked at.
func (s stretch) place(m api.Message) int {
	return sort.Search(len(s.steps), func(i int) bool { return !event.Before(s.steps[i].event, m) })
}

// end takes all steps from that place on away. No room is left behind the others, in which what is gone would stay; the next step moves them, and they are no more than a stretch.
func (s *stretch) end(place int) { s.steps = s.steps[:place:place] }

// begin takes all steps ahead of that place away; kept is the state ahead of the one there.
func (s *stretch) begin(place int, kept api.State) {
	s.kept, s.steps = kept, slices.Delete(s.steps, 0, place)
}
