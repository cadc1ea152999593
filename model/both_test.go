package model

import (
	"math"
	"reflect"
	"slices"
	"testing"

	"isochron/api"
)

// noTimes and someTimes are at both sides of where times begin and end, and at the ends of 64 bits.
func noTimes() []int64 {
	return []int64{
		math.MinInt64, math.MinInt64 + 1, -1 << 62, -1 << 32, -2, -1,
		1 << 62, 1<<62 + 1, math.MaxInt64 - 1, math.MaxInt64,
	}
}

func someTimes() []int64 { return []int64{0, 1, 2, 50, 1 << 31, 1 << 32, 1<<62 - 2, 1<<62 - 1} }

// noProcesses are numbers that are none of a model of n, of such as would fit if they were cut to 32 bits as well.
func noProcesses(n int) []int {
	return []int{math.MinInt, math.MinInt + 1, -1 << 32, -16, -2, -1, n, n + 1, n + 15, n + 16, 1 << 31, 1 << 32, 1<<32 + 1, math.MaxInt - 1, math.MaxInt}
}

// noBudgets are numbers that are no budget.
func noBudgets() []int {
	return []int{math.MinInt, math.MinInt + 1, -1 << 32, -2, -1, 4097, 4098, 1 << 32, math.MaxInt - 1, math.MaxInt}
}

// program is one that may be, another for each number.
func program(n int) []api.Instr {
	return []api.Instr{{Op: api.OpSet, A: 8, B: n}, {Op: api.OpSend, A: 8, B: 8, C: 8}, {Op: api.OpJump, A: 3}}
}

// bad is a program that code.Check refuses, and why.
type bad struct {
	why  string
	prog []api.Instr
}

func bads() []bad {
	return []bad{
		{"one more than MaxCode", make([]api.Instr, api.MaxCode+1)},
		{"no kind", []api.Instr{{Op: 17}}},
		{"no kind, below 0", []api.Instr{{Op: -1}}},
		{"no kind, the greatest number", []api.Instr{{Op: math.MaxInt}}},
		{"no register", []api.Instr{{Op: api.OpMove, A: 16}}},
		{"no register, behind ones that may be", []api.Instr{{}, {}, {Op: api.OpAdd, C: -1}}},
		{"no place", []api.Instr{{Op: api.OpJump, A: 2}}},
		{"a number that does not fit", []api.Instr{{Op: api.OpSet, B: 1 << 31}}},
		{"a number that must be 0", []api.Instr{{Op: api.OpHalt, A: 1}}},
	}
}

// modelOf is one that may be, of n processes with no links and no starts.
func modelOf(n int) api.Model {
	m := api.Model{Seed: 77, End: 100, Budget: 10}
	for k := range n {
		m.Progs = append(m.Progs, program(k))
	}
	return m
}

// links are all that n processes can have, no two alike.
func links(n int) []api.Link {
	var l []api.Link
	for from := range n {
		for to := range n {
			l = append(l, api.Link{From: from, To: to, Look: int64(1 + len(l)), Loose: len(l)%3 == 0})
		}
	}
	return l
}

// starts are n of them, to so many processes, some of the same time.
func starts(n, processes int) []api.Start {
	var l []api.Start
	for k := range n {
		l = append(l, api.Start{To: k * 7 % processes, Time: int64(k / 3), Value: int64(k) - 5})
	}
	return l
}

// full is a model of n processes with all links and some starts.
func full(n int) api.Model {
	m := modelOf(n)
	m.Links, m.Starts = links(n), starts(3*n, n)
	return m
}

// roomy is l with room behind it, in which numbers stand.
func roomy[T any](l []T, spare T) []T {
	x := append(slices.Clone(l), spare, spare, spare)
	return x[:len(l)]
}

// copied is a copy of l, and of what stands in the room behind it.
func copied[T any](l []T) []T {
	return slices.Clone(l[:cap(l)])[:len(l)]
}

func copiedModel(m api.Model) api.Model {
	m.Progs = copied(m.Progs)
	for n := range m.Progs {
		m.Progs[n] = copied(m.Progs[n])
	}
	m.Links, m.Starts = copied(m.Links), copied(m.Starts)
	return m
}

// hasChanged tells whether l is another one than kept, or something else stands in the room behind it.
func hasChanged[T any](l, kept []T) bool {
	return len(l) != len(kept) || !reflect.DeepEqual(l[:cap(l)], kept[:cap(kept)][:cap(l)])
}

func hasModelChanged(m, kept api.Model) bool {
	for n := range kept.Progs {
		if hasChanged(m.Progs[n], kept.Progs[n]) {
			return true
		}
	}
	return hasChanged(m.Progs, kept.Progs) || hasChanged(m.Links, kept.Links) || hasChanged(m.Starts, kept.Starts) ||
		m.Seed != kept.Seed || m.End != kept.End || m.Budget != kept.Budget
}

// worldTold is what World answers.
type worldTold struct {
	w api.World
	e int
}

// told is all that is answered of a model, at the numbers that are asked for.
type told struct {
	check  int
	ways   [][]int
	into   [][]int
	way    [][]int
	worlds []worldTold
	starts []api.Message
}

// some is l, nil if it is empty: the two are the same.
func some[T any](l []T) []T {
	if len(l) == 0 {
		return nil
	}
	return l
}

func someWorld(w api.World, e api.Errno) worldTold {
	w.Prog, w.Links = some(w.Prog), some(w.Links)
	return worldTold{w, int(e)}
}

// toldOf is what the calls answer.
func toldOf(m api.Model, asked []int) told {
	x := told{check: int(Check(m)), starts: some(Starts(m))}
	for _, n := range asked {
		x.ways = append(x.ways, some(Ways(m, n)))
		x.into = append(x.into, some(Into(m, n)))
		x.worlds = append(x.worlds, someWorld(World(m, n)))
		var row []int
		for _, to := range asked {
			row = append(row, Way(m, n, to))
		}
		x.way = append(x.way, row)
	}
	return x
}

// plainTold is what they should.
func plainTold(m api.Model, asked []int) told {
	x := told{check: plainCheck(m), starts: plainStarts(m)}
	for _, n := range asked {
		x.ways = append(x.ways, plainLinks(m, n, fromOf))
		x.into = append(x.into, plainLinks(m, n, toOf))
		x.worlds = append(x.worlds, plainWorld(m, n))
		var row []int
		for _, to := range asked {
			row = append(row, plainWay(m, n, to))
		}
		x.way = append(x.way, row)
	}
	return x
}

// spoil writes over all of l, and over the room behind it.
func spoil[T any](l []T, with T) {
	l = l[:cap(l)]
	for k := range l {
		l[k] = with
	}
}

func (x told) spoil() {
	for k := range x.ways {
		spoil(x.ways[k], -9)
		spoil(x.into[k], -9)
		spoil(x.worlds[k].w.Prog, api.Instr{Op: -9})
		spoil(x.worlds[k].w.Links, api.Link{From: -9})
	}
	spoil(x.starts, api.Message{To: -9})
}

func spoilModel(m api.Model) {
	for _, l := range m.Progs {
		spoil(l, api.Instr{Op: -8})
	}
	spoil(m.Progs, nil)
	spoil(m.Links, api.Link{From: -8})
	spoil(m.Starts, api.Start{To: -8})
}

// askedOf are the numbers of all processes, some that are none, and those that the links name.
func askedOf(m api.Model) []int {
	l := noProcesses(len(m.Progs))
	for n := range min(len(m.Progs), 20) {
		l = append(l, n)
	}
	for _, x := range m.Links[:min(len(m.Links), 20)] {
		l = append(l, x.From, x.To)
	}
	slices.Sort(l)
	return slices.Compact(l)
}

// hold holds all calls at m against the second reading, twice; it looks that m stays as it is, and that the answers share nothing with m or with one another. It answers what Check does.
func hold(t *testing.T, m api.Model) api.Errno {
	t.Helper()
	m = copiedModel(m) // it is spoiled below
	asked, kept := askedOf(m), copiedModel(m)
	want := plainTold(m, asked)
	first := toldOf(m, asked)
	if !reflect.DeepEqual(first, want) {
		t.Fatalf("%v, asked %v:\n%v, want\n%v", m, asked, first, want)
	}
	next := toldOf(m, asked)
	first.spoil()
	if hasModelChanged(m, kept) {
		t.Fatalf("the model has changed: %v, want %v", m, kept)
	}
	if !reflect.DeepEqual(next, want) || !reflect.DeepEqual(toldOf(m, asked), want) {
		t.Fatalf("%v: answers share memory", m)
	}
	spoilModel(m)
	if !reflect.DeepEqual(next, want) {
		t.Fatalf("%v: answers share memory with the model", kept)
	}
	return api.Errno(want.check)
}

// expect holds all calls at m against the second reading, and Check against what it must be.
func expect(t *testing.T, what string, m api.Model, want api.Errno) {
	t.Helper()
	if got := Check(m); got != want {
		t.Fatalf("%s: Check = %d, want %d", what, got, want)
	}
	if got := hold(t, m); got != want {
		t.Fatalf("%s: the second reading says %d, want %d", what, got, want)
	}
}
