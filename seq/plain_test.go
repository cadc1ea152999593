package seq

import (
	"slices"

	"isochron/api"
	"isochron/vm"
)

// This file reads the chapter a second time: what waits is a map without order, in which the least key is looked for anew each time; worlds and messages are put together by hand, anew for each event.

type plain struct {
	m       api.Model
	waiting map[api.Key]api.Message
	states  []api.State
	history []api.Done
}

func plainBegin(m api.Model) *plain {
	p := &plain{m: m, waiting: map[api.Key]api.Message{}}
	for range m.Progs {
		p.states = append(p.states, api.State{})
	}
	for at, s := range m.Starts {
		p.wait(s.Time, -1, at, s.To, s.Value)
	}
	return p
}

func (p *plain) wait(time int64, from, seq, to int, value int64) {
	key := api.Key{Time: time, From: from, Seq: seq}
	if _, there := p.waiting[key]; there {
		panic("two messages of one key")
	}
	p.waiting[key] = api.Message{Key: key, To: to, Value: value}
}

// plainOrder is the order of keys, number by number.
func plainOrder(a, b api.Key) int {
	return slices.Compare([]int64{a.Time, int64(a.From), int64(a.Seq)}, []int64{b.Time, int64(b.From), int64(b.Seq)})
}

// least is what waits of the least key.
func (p *plain) least() (least api.Message, isThere bool) {
	for key, m := range p.waiting {
		if !isThere || plainOrder(key, least.Key) < 0 {
			least, isThere = m, true
		}
	}
	return least, isThere
}

// do does the event x, and answers its fault.
func (p *plain) do(x api.Message) int {
	w := api.World{Prog: p.m.Progs[x.To], Self: x.To, Seed: p.m.Seed}
	for _, l := range p.m.Links {
		if l.From == x.To {
			w.Links = append(w.Links, l)
		}
	}
	ahead := p.states[x.To]
	behind, sent, e := vm.Run(w, ahead, x)
	if e != 0 {
		return int(e)
	}
	delete(p.waiting, x.Key)
	p.states[x.To] = behind
	p.history = append(p.history, api.Done{Key: x.Key, To: x.To, Value: x.Value})
	for i, out := range sent {
		p.wait(x.Key.Time+out.Delay, x.To, ahead.Sent+i, w.Links[out.Link].To, out.Value)
	}
	return 0
}

// run does events, n at most if there is a bound, and answers why it ended.
func (p *plain) run(n int, isBounded bool) int {
	for {
		x, isThere := p.least()
		switch {
		case isBounded && len(p.history) == n:
			return 0
		case !isThere, x.Key.Time > p.m.End:
			return 1
		case len(p.history) == p.m.Budget:
			return 4
		}
		switch p.do(x) {
		case 10:
			return 2
		case 50:
			return 3
		}
	}
}

// left is what waits, from the least key on.
func (p *plain) left() []api.Message {
	var l []api.Message
	for _, m := range p.waiting {
		l = append(l, m)
	}
	slices.SortFunc(l, func(a, b api.Message) int { return plainOrder(a.Key, b.Key) })
	return l
}
