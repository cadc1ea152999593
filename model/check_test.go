package model

import (
	"errors"
	"math"
	"slices"
	"strconv"
	"testing"

	"isochron/api"
)

func text(n int) string { return strconv.Itoa(n) }

func text64(n int64) string { return strconv.FormatInt(n, 10) }

// sizes are the numbers of processes that the tests take.
func sizes() []int { return []int{1, 2, 3, 7, 15, 16} }

// spots are the first, a middle and the last place of n.
func spots(n int) []int {
	l := []int{0, n / 2, n - 1}
	return slices.Compact(l)
}

// P13.1: how many processes there may be.
func TestCheckProcesses(t *testing.T) {
	for _, n := range []int{1, 2, 3, 7, 14, 15, 16} {
		expect(t, text(n)+" programs", modelOf(n), api.OK)
		expect(t, text(n)+" programs of no instructions", api.Model{Progs: make([][]api.Instr, n)}, api.OK)
		expect(t, text(n)+" programs, all links", full(n), api.OK)
	}
	for _, n := range []int{0, 17, 18, 32, 256, 1 << 16} {
		expect(t, text(n)+" programs", api.Model{Progs: make([][]api.Instr, n)}, api.ErrArg)
	}
	expect(t, "nil", api.Model{}, api.ErrArg)
	expect(t, "no programs, links and starts", api.Model{Links: links(2), Starts: starts(5, 2)}, api.ErrArg)
	expect(t, "17 programs", modelOf(17), api.ErrArg)
	expect(t, "an empty list", api.Model{Progs: [][]api.Instr{}, End: 5}, api.ErrArg)
	expect(t, "empty lists", api.Model{Progs: [][]api.Instr{{}}, Links: []api.Link{}, Starts: []api.Start{}}, api.OK)
}

// P13.1: End is a time.
func TestCheckEnd(t *testing.T) {
	for _, n := range sizes() {
		m := full(n)
		for _, m.End = range someTimes() {
			expect(t, "End "+text64(m.End), m, api.OK)
		}
		for _, m.End = range noTimes() {
			expect(t, "End "+text64(m.End), m, api.ErrArg)
		}
	}
}

// P13.1: Budget is 0 to MaxEvents.
func TestCheckBudget(t *testing.T) {
	for _, n := range sizes() {
		m := full(n)
		for _, m.Budget = range []int{0, 1, 2, 50, 4095, 4096} {
			expect(t, "Budget "+text(m.Budget), m, api.OK)
		}
		for _, m.Budget = range noBudgets() {
			expect(t, "Budget "+text(m.Budget), m, api.ErrArg)
		}
	}
}

// P13.1: any seed may be.
func TestCheckSeed(t *testing.T) {
	m := full(3)
	for _, m.Seed = range []uint64{0, 1, 1 << 63, math.MaxUint64} {
		expect(t, "a seed", m, api.OK)
	}
}

// P13.1: a program that code.Check refuses, whatever its reason, wherever it stands: the answer is ErrProg, of one that is too long as well.
func TestCheckPrograms(t *testing.T) {
	for _, n := range sizes() {
		for at := range n {
			for _, b := range bads() {
				m := full(n)
				m.Progs[at] = b.prog
				expect(t, b.why+" at "+text(at)+" of "+text(n), m, api.ErrProg)
			}
			m := full(n)
			m.Progs[at] = make([]api.Instr, api.MaxCode)
			expect(t, "MaxCode instructions", m, api.OK)
			m.Progs[at] = []api.Instr{{Op: api.OpJump, A: 1}}
			expect(t, "a place at the program's end", m, api.OK)
		}
	}
}

// P13.1: how many links there may be: as no two may be alike, ErrLink comes ahead of MaxSlots.
func TestCheckHowManyLinks(t *testing.T) {
	for _, n := range sizes() {
		m := modelOf(n)
		expect(t, "no links", m, api.OK)
		for k, all := 1, links(n); k <= n*n; k += 1 + k/2 {
			m.Links = all[:k]
			expect(t, text(k)+" links", m, api.OK)
		}
		m.Links = links(n)
		expect(t, "all links", m, api.OK)
		m.Links = append(m.Links, m.Links[n*n/2])
		expect(t, "one more", m, api.ErrLink)
		for _, k := range []int{1023, 1024, 1025, 1026} {
			m.Links = slices.Repeat(links(n), 1+k/(n*n))[:k]
			expect(t, text(k)+" links", m, api.ErrLink)
		}
	}
	m := modelOf(2)
	m.Links = slices.Repeat(links(2), 1<<16)
	if e := Check(m); e != api.ErrLink {
		t.Errorf("very many links: %d", e)
	}
}

// P13.1: From and To are processes, at each place of a list of links.
func TestCheckFromAndTo(t *testing.T) {
	for _, n := range sizes() {
		m := modelOf(n)
		for end := range n {
			m.Links = []api.Link{{From: end, To: n - 1, Look: 1}}
			expect(t, "From "+text(end), m, api.OK)
			m.Links = []api.Link{{From: 0, To: end, Look: 1}}
			expect(t, "To "+text(end), m, api.OK)
		}
		for _, no := range noProcesses(n) {
			m.Links = []api.Link{{From: no, To: n - 1, Look: 1}}
			expect(t, "From "+text(no), m, api.ErrLink)
			m.Links = []api.Link{{From: 0, To: no, Look: 1}}
			expect(t, "To "+text(no), m, api.ErrLink)
			m.Links = []api.Link{{From: no, To: no, Look: 1}}
			expect(t, "From and To "+text(no), m, api.ErrLink)
			for _, at := range spots(n * n) {
				m.Links = links(n)
				m.Links[at].From = no
				expect(t, "From "+text(no)+" at "+text(at), m, api.ErrLink)
				m.Links = links(n)
				m.Links[at].To = no
				expect(t, "To "+text(no)+" at "+text(at), m, api.ErrLink)
			}
		}
	}
}

// P13.1: Look is 1 to MaxTime, at each place of a list of links, of both kinds of them.
func TestCheckLook(t *testing.T) {
	for _, n := range sizes() {
		for _, at := range spots(n * n) {
			m := modelOf(n)
			m.Links = links(n)
			x := &m.Links[at]
			for _, x.Loose = range []bool{false, true} {
				for _, x.Look = range someTimes() {
					want := api.OK
					if x.Look == 0 {
						want = api.ErrLink
					}
					expect(t, "Look "+text64(x.Look), m, want)
				}
				for _, x.Look = range noTimes() {
					expect(t, "Look "+text64(x.Look), m, api.ErrLink)
				}
			}
		}
	}
}

// P13.1: no two links from one process to another, side by side or far apart, whatever else they have; the other way round they may be.
func TestCheckTwice(t *testing.T) {
	m := modelOf(16)
	there, back := api.Link{From: 3, To: 5, Look: 1}, api.Link{From: 5, To: 3, Look: 1}
	self, other := api.Link{From: 3, To: 3, Look: 1}, api.Link{From: 5, To: 5, Look: 1}
	alike := api.Link{From: 3, To: 5, Look: 9, Loose: true}
	for _, c := range []struct {
		l    []api.Link
		want api.Errno
	}{
		{[]api.Link{there}, api.OK},
		{[]api.Link{there, there}, api.ErrLink},
		{[]api.Link{there, alike}, api.ErrLink},
		{[]api.Link{alike, there}, api.ErrLink},
		{[]api.Link{there, back}, api.OK},
		{[]api.Link{back, there}, api.OK},
		{[]api.Link{there, back, there}, api.ErrLink},
		{[]api.Link{there, back, back}, api.ErrLink},
		{[]api.Link{self}, api.OK},
		{[]api.Link{self, other}, api.OK},
		{[]api.Link{self, there, back, other}, api.OK},
		{[]api.Link{self, self}, api.ErrLink},
		{[]api.Link{self, there, back, other, self}, api.ErrLink},
		{[]api.Link{{From: 0, To: 1, Look: 1}, {From: 0, To: 2, Look: 1}, {From: 1, To: 2, Look: 1}, {From: 1, To: 0, Look: 1}}, api.OK},
		{[]api.Link{{From: 1, To: 15, Look: 1}, {From: 11, To: 5, Look: 1}}, api.OK},
		{[]api.Link{{From: 0, To: 0, Look: 1}, {From: 0, To: 0, Look: 1}}, api.ErrLink},
	} {
		m.Links = c.l
		expect(t, "links", m, c.want)
	}
}

// P13.1: one that is alike one ahead of it is found at every two places.
func TestCheckTwiceAtAllPlaces(t *testing.T) {
	for _, n := range []int{2, 3, 16} {
		m := modelOf(n)
		for at := 1; at < n*n; at++ {
			for ahead := range at {
				m.Links = links(n)
				m.Links[at].From, m.Links[at].To = m.Links[ahead].From, m.Links[ahead].To
				if e := Check(m); e != api.ErrLink {
					t.Fatalf("of %d processes, links alike at %d and %d: %d", n, ahead, at, e)
				}
			}
		}
	}
}

// P13.1: how many starts there may be; they may be alike.
func TestCheckHowManyStarts(t *testing.T) {
	for _, n := range sizes() {
		m := modelOf(n)
		for _, k := range []int{0, 1, 2, 100, 4095, 4096} {
			m.Starts = starts(k, n)
			expect(t, text(k)+" starts", m, api.OK)
			m.Starts = make([]api.Start, k)
			expect(t, text(k)+" starts alike", m, api.OK)
		}
		for _, k := range []int{4097, 4098, 1 << 13} {
			m.Starts = starts(k, n)
			expect(t, text(k)+" starts", m, api.ErrEvent)
		}
	}
}

// P13.1: To is a process, at each place of a list of starts.
func TestCheckStartsTo(t *testing.T) {
	for _, n := range sizes() {
		for _, k := range []int{1, 2, 9, 4096} {
			for _, at := range spots(k) {
				m := modelOf(n)
				m.Starts = starts(k, n)
				for m.Starts[at].To = range n {
					if e := Check(m); e != api.OK {
						t.Fatalf("To %d at %d of %d: %d", m.Starts[at].To, at, k, e)
					}
				}
				for _, m.Starts[at].To = range noProcesses(n) {
					if e := Check(m); e != api.ErrEvent {
						t.Fatalf("To %d at %d of %d: %d", m.Starts[at].To, at, k, e)
					}
				}
				hold(t, m)
			}
		}
	}
}

// P13.1: Time is a time, at each place of a list of starts; it may be later than End, and any value may be.
func TestCheckStartsTime(t *testing.T) {
	for _, k := range []int{1, 2, 9, 4096} {
		for _, at := range spots(k) {
			m := modelOf(3)
			m.End = 0
			m.Starts = starts(k, 3)
			for _, m.Starts[at].Time = range someTimes() {
				expect(t, "Time "+text64(m.Starts[at].Time), m, api.OK)
			}
			for _, m.Starts[at].Time = range noTimes() {
				expect(t, "Time "+text64(m.Starts[at].Time), m, api.ErrEvent)
			}
			m.Starts[at].Time = 5
			for _, m.Starts[at].Value = range append(noTimes(), someTimes()...) {
				expect(t, "Value "+text64(m.Starts[at].Value), m, api.OK)
			}
		}
	}
}

// fault is one that a model can have, and its error.
type fault struct {
	number api.Errno
	set    func(m *api.Model)
}

// faults are many of each of the four kinds; they don't get into one another's way.
func faults() [4][]fault {
	return [4][]fault{
		{
			{api.ErrArg, func(m *api.Model) { m.End = -1 }},
			{api.ErrArg, func(m *api.Model) { m.End = api.Never }},
			{api.ErrArg, func(m *api.Model) { m.Budget = -1 }},
			{api.ErrArg, func(m *api.Model) { m.Budget = 4097 }},
			{api.ErrArg, func(m *api.Model) { m.Progs = append(m.Progs, make([][]api.Instr, 17)...) }},
		},
		{
			{api.ErrProg, func(m *api.Model) { m.Progs = append(m.Progs, []api.Instr{{Op: 17}}) }},
			{api.ErrProg, func(m *api.Model) { m.Progs = append(m.Progs, make([]api.Instr, 257), nil) }},
			{api.ErrProg, func(m *api.Model) { m.Progs = append([][]api.Instr{{{Op: -1}}}, m.Progs...) }},
		},
		{
			{api.ErrLink, func(m *api.Model) { m.Links = append(m.Links, api.Link{From: 0, To: 99, Look: 1}) }},
			{api.ErrLink, func(m *api.Model) { m.Links = append(m.Links, api.Link{From: -1, To: 0, Look: 1}) }},
			{api.ErrLink, func(m *api.Model) { m.Links = append([]api.Link{{}}, m.Links...) }},
			{api.ErrLink, func(m *api.Model) { m.Links = append(m.Links, m.Links[0]) }},
			{api.ErrLink, func(m *api.Model) { m.Links = append(m.Links, make([]api.Link, 1025)...) }},
		},
		{
			{api.ErrEvent, func(m *api.Model) { m.Starts = append(m.Starts, api.Start{To: 99}) }},
			{api.ErrEvent, func(m *api.Model) { m.Starts = append([]api.Start{{Time: -1}}, m.Starts...) }},
			{api.ErrEvent, func(m *api.Model) { m.Starts = append(m.Starts, make([]api.Start, 4097)...) }},
		},
	}
}

// orders are all orders of the numbers below n.
func orders(n int) [][]int {
	if n == 0 {
		return [][]int{nil}
	}
	var l [][]int
	for _, x := range orders(n - 1) {
		for at := range n {
			l = append(l, slices.Insert(slices.Clone(x), at, n-1))
		}
	}
	return l
}

// P13.1, P2: of faults of several kinds the error is told that the chapter names first, in whichever order they were made.
func TestCheckWhichError(t *testing.T) {
	all := faults()
	numbers := []api.Errno{api.ErrArg, api.ErrProg, api.ErrLink, api.ErrEvent}
	for made := range 1 << 4 {
		want := api.OK
		for kind := 3; kind >= 0; kind-- {
			if made>>kind&1 == 1 {
				want = numbers[kind]
			}
		}
		for round := range 30 { // another fault of each kind in each
			for _, order := range orders(4) {
				m := full(3)
				for _, kind := range order {
					if made>>kind&1 == 1 {
						l := all[kind]
						l[round%len(l)].set(&m)
					}
				}
				if e := Check(m); e != want {
					t.Fatalf("faults %b made in the order %v, round %d: %d, want %d", made, order, round, e, want)
				}
				if order[0] == 0 && order[1] == 1 && order[2] == 2 {
					hold(t, m)
				}
			}
		}
	}
}

// P13.1: two faults of one kind, and each fault alone.
func TestCheckTwoOfOneKind(t *testing.T) {
	for _, l := range faults() {
		for _, a := range l {
			for _, b := range l {
				m := full(4)
				a.set(&m)
				expect(t, "one fault", m, a.number)
				b.set(&m)
				expect(t, "two faults", m, a.number)
			}
		}
	}
}

// P13.1: what is wrong is told within the part where it is.
func TestFlaws(t *testing.T) {
	for _, c := range []struct {
		set    func(m *api.Model)
		number api.Errno
		why    error
	}{
		{func(m *api.Model) { m.Progs = nil }, api.ErrArg, errCount},
		{func(m *api.Model) { m.End = -1 }, api.ErrArg, errTime},
		{func(m *api.Model) { m.Budget = -1 }, api.ErrArg, errCount},
		{func(m *api.Model) { m.Progs[1] = make([]api.Instr, 257) }, api.ErrProg, api.ErrLong},
		{func(m *api.Model) { m.Progs[1] = []api.Instr{{Op: 17}} }, api.ErrProg, api.ErrProg},
		{func(m *api.Model) { m.Links = make([]api.Link, 1025) }, api.ErrLink, errCount},
		{func(m *api.Model) { m.Links[2].To = 3 }, api.ErrLink, errProcess},
		{func(m *api.Model) { m.Links[2].Look = 0 }, api.ErrLink, errTime},
		{func(m *api.Model) { m.Links[2] = m.Links[1] }, api.ErrLink, errTwice},
		{func(m *api.Model) { m.Starts = make([]api.Start, 4097) }, api.ErrEvent, errCount},
		{func(m *api.Model) { m.Starts[4].To = 3 }, api.ErrEvent, errProcess},
		{func(m *api.Model) { m.Starts[4].Time = -1 }, api.ErrEvent, errTime},
	} {
		m := full(3)
		c.set(&m)
		err := flawOf(m)
		var f flaw
		if !errors.As(err, &f) || f.number != c.number || !errors.Is(err, c.why) {
			t.Errorf("flaw %v, want %d and %v", err, c.number, c.why)
		}
		if want := c.number.Error() + ": " + c.why.Error(); err != nil && err.Error() != want {
			t.Errorf("told as %q, want %q", err, want)
		}
	}
	if err := flawOf(full(3)); err != nil {
		t.Errorf("of one that may be: %v", err)
	}
}
