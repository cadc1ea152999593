package log

import (
	"slices"

	"isochron/api"
	"isochron/event"
	"isochron/vm"
)

// plain is the chapter, read a second time: every entry has the state ahead of it at hand, and beside it stands whether that one is kept.
type plain struct {
	world api.World
	every int
	l     []api.Entry
	kept  []bool // of the entry at the same place; that of the first one tells nothing, as the base is always kept
	state api.State
	stuck bool
}

func newPlain(w api.World, s api.State, every int) *plain {
	return &plain{world: w, every: every, state: s}
}

// since is how many entries there are behind the last kept state.
func (p *plain) since() int {
	for i := len(p.l) - 1; i > 0; i-- {
		if p.kept[i] {
			return len(p.l) - i
		}
	}
	return len(p.l)
}

func (p *plain) try(m api.Message, uid int, kept []api.Message) (api.Entry, api.Errno) {
	switch {
	case event.Check(m) != 0 || m.Anti || uid < 0 || uid > 1099511627776:
		return api.Entry{}, 1
	case len(p.l) > 0 && !event.Before(p.l[len(p.l)-1].Event, m):
		return api.Entry{}, 1
	case p.stuck:
		return api.Entry{}, 5
	case len(p.l) >= 16384:
		return api.Entry{}, 9
	}
	_, outs, fault := vm.Run(p.world, p.state, m)
	sent := vm.Sends(p.world, p.state, m, outs, uid)
	used := make([]bool, len(kept))
	others := 0
	for i := range sent {
		sent[i].Uid = uid + others
		fits := false
		for j, k := range kept {
			if !used[j] && k.Key == sent[i].Key && k.To == sent[i].To && k.Value == sent[i].Value {
				used[j], fits, sent[i].Uid = true, true, k.Uid
				break
			}
		}
		if !fits {
			others++
		}
	}
	return api.Entry{Event: m, Before: p.state, Fault: fault, Sent: sent}, 0
}

func (p *plain) do(m api.Message, uid int, kept []api.Message) (api.Entry, api.Errno) {
	x, e := p.try(m, uid, kept)
	if e != 0 {
		return x, e
	}
	p.kept = append(p.kept, p.since() >= p.every)
	p.l = append(p.l, x)
	p.state, _, _ = vm.Run(p.world, p.state, m)
	p.stuck = x.Fault != 0
	return x, 0
}

func (p *plain) back(m api.Message) []api.Entry {
	var gone []api.Entry
	for len(p.l) > 0 {
		last := p.l[len(p.l)-1]
		if event.Before(last.Event, m) {
			break
		}
		gone = append(gone, last)
		p.state = last.Before
		if last.Fault != 0 {
			p.stuck = false
		}
		p.l, p.kept = p.l[:len(p.l)-1], p.kept[:len(p.l)-1]
	}
	return gone
}

func (p *plain) drop(t int64) []api.Entry {
	var gone []api.Entry
	for len(p.l) > 0 && p.l[0].Event.Key.Time < t {
		gone = append(gone, p.l[0])
		p.l, p.kept = p.l[1:], p.kept[1:]
	}
	return gone
}

func (p *plain) find(from, uid int) (api.Message, bool) {
	for _, x := range p.l {
		if x.Event.Key.From == from && x.Event.Uid == uid {
			return x.Event, true
		}
	}
	return api.Message{}, false
}

func (p *plain) last() (api.Message, bool) {
	if len(p.l) == 0 {
		return api.Message{}, false
	}
	return p.l[len(p.l)-1].Event, true
}

// howMany is how many states are kept.
func (p *plain) howMany() int {
	n := 1
	for i := 1; i < len(p.l); i++ {
		if p.kept[i] {
			n++
		}
	}
	return n
}

func sameEntry(a, b api.Entry) bool {
	return a.Event == b.Event && a.Before == b.Before && a.Fault == b.Fault && slices.Equal(a.Sent, b.Sent)
}

func sameEntries(a, b []api.Entry) bool { return slices.EqualFunc(a, b, sameEntry) }

// copied is l with lists of its own.
func copied(l []api.Entry) []api.Entry {
	c := slices.Clone(l)
	for i := range c {
		c[i].Sent = slices.Clone(c[i].Sent)
	}
	return c
}

func reversed(l []api.Entry) []api.Entry {
	r := slices.Clone(l)
	slices.Reverse(r)
	return r
}
