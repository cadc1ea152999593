package model

import (
	"reflect"
	"slices"
	"testing"

	"isochron/api"
	"isochron/draw"
)

// chance is a row of numbers that hang on a seed.
type chance struct {
	seed uint64
	n    int
}

func (c *chance) below(k int) int {
	c.n++
	return int(draw.Below(c.seed, 0, c.n, int64(k)))
}

func (c *chance) time() int64 {
	if c.below(4) == 0 {
		return one(c, someTimes())
	}
	return int64(c.below(50))
}

// one is one of l.
func one[T any](c *chance, l []T) T { return l[c.below(len(l))] }

// right is a model that may be, at times one of a single process, at times one with all links.
func (c *chance) right() api.Model {
	m := modelOf(1 + c.below(16))
	m.Seed, m.End, m.Budget = uint64(c.below(1000))<<40, c.time(), c.below(4097)
	n := len(m.Progs)
	for k := range m.Progs {
		m.Progs[k] = slices.Repeat(program(c.below(9)), c.below(3))
	}
	m.Links = links(n)
	for k := len(m.Links) - 1; k > 0; k-- {
		other := c.below(k + 1)
		m.Links[k], m.Links[other] = m.Links[other], m.Links[k]
	}
	m.Links = m.Links[:c.below(n*n+1)]
	for k := range m.Links {
		m.Links[k].Look = max(1, c.time())
		m.Links[k].Loose = c.below(2) == 0
	}
	for range c.below(12) {
		m.Starts = append(m.Starts, api.Start{To: c.below(n), Time: c.time(), Value: c.time() - 20})
	}
	return m
}

// wrong makes one thing in m what it may not be.
func (c *chance) wrong(m *api.Model) {
	n := len(m.Progs)
	switch c.below(11) {
	case 0:
		m.Progs = nil
	case 1:
		m.Progs = append(m.Progs, make([][]api.Instr, 17)...)
	case 2:
		m.End = one(c, noTimes())
	case 3:
		m.Budget = one(c, noBudgets())
	case 4:
		if n > 0 {
			m.Progs[c.below(n)] = one(c, bads()).prog
		}
	case 5:
		m.Links = slices.Insert(m.Links, c.below(len(m.Links)+1), api.Link{From: one(c, noProcesses(n)), Look: 1})
	case 6:
		m.Links = slices.Insert(m.Links, c.below(len(m.Links)+1), api.Link{To: one(c, noProcesses(n)), Look: 1})
	case 7:
		if len(m.Links) > 0 {
			m.Links[c.below(len(m.Links))].Look = one(c, append(noTimes(), 0))
		}
	case 8:
		if len(m.Links) > 0 {
			m.Links = slices.Insert(m.Links, c.below(len(m.Links)+1), one(c, m.Links))
		}
	case 9:
		m.Starts = slices.Insert(m.Starts, c.below(len(m.Starts)+1), api.Start{To: one(c, noProcesses(n))})
	case 10:
		m.Starts = slices.Insert(m.Starts, c.below(len(m.Starts)+1), api.Start{Time: one(c, noTimes())})
	}
}

// model is a right one half of the time, else one with up to three things wrong.
func (c *chance) model() api.Model {
	m := c.right()
	if c.below(2) == 0 {
		for range 1 + c.below(3) {
			c.wrong(&m)
		}
	}
	return m
}

// P13.1 to P13.3, P4: all calls at random models, right and wrong ones, against the second reading.
func TestPlays(t *testing.T) {
	seen := map[api.Errno]int{}
	for seed := range uint64(2000) {
		c := &chance{seed: seed}
		seen[hold(t, c.model())]++
	}
	for _, e := range []api.Errno{api.OK, api.ErrArg, api.ErrProg, api.ErrLink, api.ErrEvent} {
		if seen[e] < 50 {
			t.Errorf("the plays came to %d %d times only", e, seen[e])
		}
	}
}

// P13.1, P2: random models of few values, in which every number is near where the document changes what is answered.
func TestPlaysAtTheEdges(t *testing.T) {
	seen := map[api.Errno]int{}
	for seed := range uint64(10000) {
		c := &chance{seed: seed}
		n := 1 + c.below(3)
		m := modelOf(n)
		for range c.below(4) {
			m.Links = append(m.Links, api.Link{From: c.below(n+1) - c.below(30)/29, To: c.below(n+1) - c.below(30)/29, Look: one(c, []int64{0, 1, 1, 2, 1<<62 - 1, 1 << 62, -1})})
		}
		for range c.below(3) {
			m.Starts = append(m.Starts, api.Start{To: c.below(n+1) - c.below(30)/29, Time: one(c, []int64{-1, 0, 0, 1, 1<<62 - 1, 1 << 62})})
		}
		m.End = one(c, []int64{-1, 0, 0, 5, 1<<62 - 1, 1 << 62})
		m.Budget = one(c, []int{-1, 0, 0, 5, 4096, 4097})
		if c.below(4) == 0 {
			m.Progs[c.below(n)] = []api.Instr{{Op: c.below(19) - 1}}
		}
		if got, want := int(Check(m)), plainCheck(m); got != want {
			t.Fatalf("%v: Check = %d, want %d", m, got, want)
		}
		seen[Check(m)]++
	}
	for _, e := range []api.Errno{api.OK, api.ErrArg, api.ErrProg, api.ErrLink, api.ErrEvent} {
		if seen[e] < 100 {
			t.Errorf("the plays came to %d %d times only", e, seen[e])
		}
	}
}

// P5: the same models once more, in another order: the same answers.
func TestThePlayOnceMore(t *testing.T) {
	var l []told
	for seed := range uint64(200) {
		m := (&chance{seed: seed}).model()
		l = append(l, toldOf(m, askedOf(m)))
	}
	for seed := range uint64(200) {
		m := (&chance{seed: 199 - seed}).model()
		if !reflect.DeepEqual(toldOf(m, askedOf(m)), l[199-seed]) {
			t.Fatalf("the model of %d is answered otherwise", 199-seed)
		}
	}
}
