package model

import (
	"slices"

	"isochron/api"
	"isochron/code"
)

// This file reads the chapter a second time: all that is wrong is collected, whatever its order, and links are laid out as a table of who sends to whom.

// plainTime tells whether t is a time: of those the two highest bits are 0.
func plainTime(t int64) bool { return uint64(t)>>62 == 0 }

// plainNames are the numbers of the processes.
func plainNames(m api.Model) map[int]int {
	names := map[int]int{}
	for n := range m.Progs {
		names[n]++
	}
	return names
}

// plainWrong counts what is wrong in m, by the number of its error.
func plainWrong(m api.Model) map[int]int {
	wrong := map[int]int{}
	note := func(e int, is bool) {
		if is {
			wrong[e]++
		}
	}
	names, pairs := plainNames(m), map[[2]int]int{}
	note(1, len(names) < 1)
	note(1, len(names) > 16)
	note(1, !plainTime(m.End))
	note(1, m.Budget < 0)
	note(1, m.Budget > 4096)
	for _, l := range m.Progs {
		note(130, code.Check(l) != 0)
	}
	note(131, len(m.Links) > 1024)
	for _, l := range m.Links {
		note(131, names[l.From] == 0)
		note(131, names[l.To] == 0)
		note(131, !plainTime(l.Look))
		note(131, l.Look == 0)
		pairs[[2]int{l.From, l.To}]++
	}
	for _, n := range pairs {
		note(131, n > 1)
	}
	note(132, len(m.Starts) > 4096)
	for _, s := range m.Starts {
		note(132, names[s.To] == 0)
		note(132, !plainTime(s.Time))
	}
	return wrong
}

func plainCheck(m api.Model) int {
	wrong := plainWrong(m)
	for _, e := range []int{1, 130, 131, 132} {
		if wrong[e] > 0 {
			return e
		}
	}
	return 0
}

// plainLinks are the places of the links that begin or end at n, found from the last one on.
func plainLinks(m api.Model, n int, end func(l api.Link) int) []int {
	var l []int
	for at := len(m.Links) - 1; at >= 0; at-- {
		if end(m.Links[at]) == n {
			l = append(l, at)
		}
	}
	slices.Reverse(l)
	return l
}

func fromOf(l api.Link) int { return l.From }

func toOf(l api.Link) int { return l.To }

// plainWay goes through the links that begin at one and ends with the first that ends at the other.
func plainWay(m api.Model, from, to int) int {
	for _, at := range plainLinks(m, from, fromOf) {
		if m.Links[at].To == to {
			return at
		}
	}
	return -1
}

func plainWorld(m api.Model, n int) worldTold {
	if e := plainCheck(m); e != 0 {
		return worldTold{e: e}
	}
	if plainNames(m)[n] == 0 {
		return worldTold{e: 1}
	}
	var told worldTold
	told.w.Self, told.w.Seed = n, m.Seed
	for _, i := range m.Progs[n] {
		told.w.Prog = append(told.w.Prog, i)
	}
	for _, at := range plainLinks(m, n, fromOf) {
		told.w.Links = append(told.w.Links, m.Links[at])
	}
	return told
}

func plainStarts(m api.Model) []api.Message {
	var l []api.Message
	for _, s := range m.Starts {
		var x api.Message
		x.Key.Time, x.Key.From, x.Key.Seq = s.Time, -1, len(l)
		x.To, x.Value, x.Uid = s.To, s.Value, len(l)
		l = append(l, x)
	}
	return l
}
