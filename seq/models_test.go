package seq

import (
	"slices"

	"isochron/api"
)

// The handlers of the tests, as lists of instructions that may be laid behind one another.

func set(register, number int) []api.Instr {
	return []api.Instr{{Op: api.OpSet, A: register, B: number}}
}

// add adds a number to a register.
func add(register, number int) []api.Instr {
	return []api.Instr{{Op: api.OpSet, A: 15, B: number}, {Op: api.OpAdd, A: register, B: register, C: 15}}
}

// sum adds the event's value to a register.
func sum(register int) []api.Instr {
	return []api.Instr{{Op: api.OpValue, A: 15}, {Op: api.OpAdd, A: register, B: register, C: 15}}
}

// send sends the event's value on a link, behind a delay.
func send(link, delay int) []api.Instr {
	return slices.Concat(set(13, link), set(14, delay), []api.Instr{{Op: api.OpValue, A: 15}, {Op: api.OpSend, A: 13, B: 14, C: 15}})
}

// sendBehindValue sends the event's value on a link, behind as much.
func sendBehindValue(link int) []api.Instr {
	return slices.Concat(set(13, link), []api.Instr{{Op: api.OpValue, A: 15}, {Op: api.OpSend, A: 13, B: 15, C: 15}})
}

// draw draws a number below some bound.
func draw(register, bound int) []api.Instr {
	return slices.Concat(set(15, bound), []api.Instr{{Op: api.OpDraw, A: register, B: 15}})
}

// countIt counts events and adds up their values.
func countIt() []api.Instr { return slices.Concat(add(0, 1), sum(1)) }

// tooFar counts, draws, sends and then ends with the fault ErrTime: 2 times (2^31 - 1)^2 is above all times.
func tooFar() []api.Instr {
	far := []api.Instr{{Op: api.OpMul, A: 14, B: 14, C: 14}, {Op: api.OpAdd, A: 14, B: 14, C: 14}, {Op: api.OpSend, A: 13, B: 14, C: 15}}
	return slices.Concat(countIt(), draw(2, 50), send(0, 9), set(13, 0), set(14, 1<<31-1), far)
}

// tooSoon counts, draws, sends and then ends with the fault ErrLook.
func tooSoon() []api.Instr { return slices.Concat(countIt(), draw(2, 50), send(0, 9), send(0, 0)) }

// modelOf is a model of these programs with no links and no starts.
func modelOf(progs ...[]api.Instr) api.Model {
	return api.Model{Progs: progs, Seed: 77, End: 1000, Budget: 50}
}

// counters is a model of n processes that count.
func counters(n int) api.Model {
	m := modelOf()
	for range n {
		m.Progs = append(m.Progs, countIt())
	}
	return m
}

// itself is a link from a process to itself.
func itself(process int, look int64) api.Link {
	return api.Link{From: process, To: process, Look: look}
}

func start(to int, time, value int64) api.Start { return api.Start{To: to, Time: time, Value: value} }

// done is an event that was done.
func done(time int64, from, seq, to int, value int64) api.Done {
	return api.Done{Key: api.Key{Time: time, From: from, Seq: seq}, To: to, Value: value}
}

// message is one that waits.
func message(time int64, from, seq, to int, value int64) api.Message {
	return api.Message{Key: api.Key{Time: time, From: from, Seq: seq}, To: to, Value: value}
}

// state is one with these registers at its beginning.
func state(draws, sent int, registers ...int64) api.State {
	s := api.State{Draws: draws, Sent: sent}
	copy(s.Regs[:], registers)
	return s
}

// counted are the states that counters come to by a history.
func counted(processes int, history []api.Done) []api.State {
	l := make([]api.State, processes)
	for _, x := range history {
		l[x.To].Regs[0]++
		l[x.To].Regs[1] += x.Value
	}
	return l
}
