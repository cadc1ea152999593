package seq

import (
	"math"
	"reflect"
	"slices"
	"strconv"
	"testing"

	"isochron/api"
	"isochron/model"
)

func text(n int) string { return strconv.Itoa(n) }

// noCounts are below 0; someCounts are at the places where a run may end, of a run of so many events, and far behind it.
func noCounts() []int { return []int{math.MinInt, math.MinInt + 1, -1 << 32, -4097, -2, -1} }

func someCounts(events int) []int {
	l := []int{0, 1, 2, events / 2, events - 1, events, events + 1, 4095, 4096, 4097, 1 << 32, math.MaxInt - 1, math.MaxInt}
	slices.Sort(l)
	l = slices.Compact(l)
	return slices.DeleteFunc(l, func(n int) bool { return n < 0 })
}

// answer is what is answered of a model: of Run and Part a result, of Left what waits.
type answer struct {
	result api.Result
	left   []api.Message
	e      api.Errno
}

// some is l, nil if it is empty: the two are the same.
func some[T any](l []T) []T {
	if len(l) == 0 {
		return nil
	}
	return l
}

func answerOf(r api.Result, e api.Errno) answer {
	r.History, r.States = some(r.History), some(r.States)
	return answer{result: r, e: e}
}

// askedOf are the counts that Part and Left are asked for: a few of them, if many events were done.
func askedOf(events int) []int { return append(noCounts(), someCounts(events)...) }

// toldOf is what the calls answer: Run, then Part and Left at each count.
func toldOf(m api.Model, asked []int) []answer {
	told := []answer{answerOf(Run(m))}
	for _, n := range asked {
		left, e := Left(m, n)
		told = append(told, answerOf(Part(m, n)), answer{left: some(left), e: e})
	}
	return told
}

// plainTold is what they should.
func plainTold(m api.Model, asked []int) []answer {
	told := []answer{plainAnswer(m, 0, false)}
	for _, n := range asked {
		part := plainAnswer(m, n, true)
		told = append(told, answer{result: part.result, e: part.e}, answer{left: part.left, e: part.e})
	}
	told[0].left = nil
	return told
}

func plainAnswer(m api.Model, n int, isBounded bool) answer {
	switch e := model.Check(m); {
	case e != 0:
		return answer{e: e}
	case isBounded && n < 0:
		return answer{e: 1}
	}
	p := plainBegin(m)
	stop := p.run(n, isBounded)
	return answer{result: api.Result{History: p.history, States: p.states, Stop: stop}, left: p.left()}
}

// copied is a copy of l, and of what stands in the room behind it.
func copied[T any](l []T) []T { return slices.Clone(l[:cap(l)])[:len(l)] }

func copiedModel(m api.Model) api.Model {
	m.Progs = copied(m.Progs)
	for n := range m.Progs {
		m.Progs[n] = copied(m.Progs[n])
	}
	m.Links, m.Starts = copied(m.Links), copied(m.Starts)
	return m
}

// spread is l with the room behind it.
func spread[T any](l []T) []T { return l[:cap(l)] }

// spreadModel is m with the room behind its lists: what no call may change.
func spreadModel(m api.Model) api.Model {
	progs := slices.Clone(m.Progs)
	for n := range progs {
		progs[n] = spread(progs[n])
	}
	m.Progs, m.Links, m.Starts = progs, spread(m.Links), spread(m.Starts)
	return m
}

// spoil writes over all of l, and over the room behind it.
func spoil[T any](l []T, with T) {
	for k := range spread(l) {
		spread(l)[k] = with
	}
}

func spoilAll(told []answer) {
	for _, a := range told {
		spoil(a.result.History, api.Done{To: -9})
		spoil(a.result.States, api.State{Sent: -9})
		spoil(a.left, api.Message{To: -9})
	}
}

func spoilModel(m api.Model) {
	for _, l := range m.Progs {
		spoil(l, api.Instr{Op: -8})
	}
	spoil(m.Progs, nil)
	spoil(m.Links, api.Link{From: -8})
	spoil(m.Starts, api.Start{To: -8})
}

// holdHistory looks at what follows for all histories, without the second reading: keys rise, and a part is a beginning of the whole, and of longer parts.
func holdHistory(t *testing.T, whole []api.Done, part []api.Done) {
	t.Helper()
	for i := 1; i < len(whole); i++ {
		if plainOrder(whole[i-1].Key, whole[i].Key) >= 0 {
			t.Fatalf("%v is not ahead of %v", whole[i-1].Key, whole[i].Key)
		}
	}
	if len(part) > len(whole) || !slices.Equal(part, whole[:len(part)]) {
		t.Fatalf("%v is no beginning of %v", part, whole)
	}
}

// hold holds all calls at m against the second reading, twice; it looks that m stays as it is, and that the answers share nothing with m or with one another. It answers what Run does.
func hold(t *testing.T, m api.Model) answer {
	t.Helper()
	m = copiedModel(m) // it is spoiled below
	kept := copiedModel(m)
	asked := askedOf(len(plainAnswer(m, 0, false).result.History))
	want := plainTold(m, asked)
	first := toldOf(m, asked)
	for k := range want {
		if !reflect.DeepEqual(first[k], want[k]) {
			t.Fatalf("%v, answer %d of the counts %v:\n%v, want\n%v", m, k, asked, first[k], want[k])
		}
		holdHistory(t, first[0].result.History, first[k].result.History)
	}
	next := toldOf(m, asked)
	spoilAll(first)
	if !reflect.DeepEqual(spreadModel(m), spreadModel(kept)) {
		t.Fatalf("the model has changed: %v, want %v", m, kept)
	}
	if !reflect.DeepEqual(next, want) || !reflect.DeepEqual(toldOf(m, asked), want) {
		t.Fatalf("%v: answers share memory", m)
	}
	spoilModel(m)
	if !reflect.DeepEqual(next, want) {
		t.Fatalf("%v: answers share memory with the model", kept)
	}
	return want[0]
}

// expect holds all calls at m against the second reading, and Run against what it must be.
func expect(t *testing.T, what string, m api.Model, want api.Result) {
	t.Helper()
	if got := answerOf(Run(m)); !reflect.DeepEqual(got, answerOf(want, api.OK)) {
		t.Fatalf("%s: Run = %v, want %v", what, got, want)
	}
	if got := hold(t, m); !reflect.DeepEqual(got, answerOf(want, api.OK)) {
		t.Fatalf("%s: the second reading says %v, want %v", what, got, want)
	}
}

// expectError holds all calls at m, which may not be, against that error, at counts that may not be as well.
func expectError(t *testing.T, what string, m api.Model, want api.Errno) {
	t.Helper()
	if got := hold(t, m); got.e != want {
		t.Fatalf("%s: the second reading says %d, want %d", what, got.e, want)
	}
	for _, got := range toldOf(m, askedOf(10)) {
		if !reflect.DeepEqual(got, answer{e: want}) {
			t.Fatalf("%s: %v, want %d and nothing else", what, got, want)
		}
	}
}
