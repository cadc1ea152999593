package model

import (
	"math"
	"slices"
	"testing"

	"isochron/api"
	"isochron/event"
	"isochron/vm"
)

// P13: the document's example.
func TestExample(t *testing.T) {
	m := api.Model{
		Progs: [][]api.Instr{nil, nil},
		Links: []api.Link{{From: 0, To: 1, Look: 1}, {From: 1, To: 0, Look: 1}},
	}
	expect(t, "the example", m, api.OK)
	if l := Ways(m, 1); !slices.Equal(l, []int{1}) {
		t.Errorf("Ways: %v", l)
	}
	if at := Way(m, 1, 1); at != -1 {
		t.Errorf("Way: %d", at)
	}
	m.Links[1] = m.Links[0]
	expect(t, "two links 0 to 1", m, api.ErrLink)
}

// few is a model of four processes: 0 has links to all, 1 one to itself, 2 some, 3 none.
func few() api.Model {
	m := modelOf(4)
	m.Links = []api.Link{
		{From: 2, To: 0, Look: 5}, {From: 0, To: 3, Look: 6, Loose: true}, {From: 1, To: 1, Look: 7}, {From: 0, To: 0, Look: 8},
		{From: 2, To: 1, Look: 9}, {From: 0, To: 1, Look: api.MaxTime}, {From: 0, To: 2, Look: 1},
	}
	m.Starts = []api.Start{{To: 3, Time: 9, Value: -4}, {To: 0, Time: 9, Value: 6}, {To: 3, Time: 2}, {To: 3, Time: 9, Value: -4}}
	return m
}

// P13.2: the places of the links, rising, whatever the order of their ends.
func TestWaysAndInto(t *testing.T) {
	m := few()
	expect(t, "few links", m, api.OK)
	for n, want := range [][2][]int{{{1, 3, 5, 6}, {0, 3}}, {{2}, {2, 4, 5}}, {{0, 4}, {6}}, {nil, {1}}} {
		if l := Ways(m, n); !slices.Equal(l, want[0]) {
			t.Errorf("Ways(%d): %v, want %v", n, l, want[0])
		}
		if l := Into(m, n); !slices.Equal(l, want[1]) {
			t.Errorf("Into(%d): %v, want %v", n, l, want[1])
		}
	}
	for _, n := range noProcesses(4) {
		if len(Ways(m, n)) != 0 || len(Into(m, n)) != 0 {
			t.Errorf("of %d: %v, %v", n, Ways(m, n), Into(m, n))
		}
	}
	m.Links = nil
	for n := range 4 {
		if len(Ways(m, n)) != 0 || len(Into(m, n)) != 0 {
			t.Errorf("without links: %v, %v", Ways(m, n), Into(m, n))
		}
	}
}

// P13.2: the place of the link between two, in that direction.
func TestWay(t *testing.T) {
	m := few()
	for from, row := range [][]int{{3, 5, 6, 1}, {-1, 2, -1, -1}, {0, 4, -1, -1}, {-1, -1, -1, -1}} {
		for to, want := range row {
			if at := Way(m, from, to); at != want {
				t.Errorf("Way(%d, %d): %d, want %d", from, to, at, want)
			}
		}
	}
	for _, no := range noProcesses(4) {
		for _, n := range append(noProcesses(4), 0, 1, 2, 3) {
			if Way(m, no, n) != -1 || Way(m, n, no) != -1 {
				t.Errorf("Way of %d and %d: %d, %d", no, n, Way(m, no, n), Way(m, n, no))
			}
		}
	}
	m.Links = nil
	if at := Way(m, 0, 1); at != -1 {
		t.Errorf("Way without links: %d", at)
	}
}

// P13.2: of a model that may not be, links are looked at as they stand there, also ones between what are no processes; of two alike Way tells the first.
func TestWaysOfRefused(t *testing.T) {
	m := modelOf(2)
	m.Links = []api.Link{{From: -1, To: 7}, {From: 0, To: 1}, {From: -1, To: math.MaxInt}, {From: 0, To: 1, Look: 5}, {From: 7, To: -1, Look: -5}}
	expect(t, "links that may not be", m, api.ErrLink)
	for _, c := range []struct {
		n          int
		ways, into []int
	}{
		{-1, []int{0, 2}, []int{4}}, {0, []int{1, 3}, nil}, {1, nil, []int{1, 3}}, {7, []int{4}, []int{0}}, {math.MaxInt, nil, []int{2}}, {math.MinInt, nil, nil},
	} {
		if l := Ways(m, c.n); !slices.Equal(l, c.ways) {
			t.Errorf("Ways(%d): %v, want %v", c.n, l, c.ways)
		}
		if l := Into(m, c.n); !slices.Equal(l, c.into) {
			t.Errorf("Into(%d): %v, want %v", c.n, l, c.into)
		}
	}
	if a, b, c := Way(m, 0, 1), Way(m, -1, math.MaxInt), Way(m, 1, 0); a != 1 || b != 2 || c != -1 {
		t.Errorf("Way: %d, %d, %d", a, b, c)
	}
	m = few()
	m.Progs = nil
	expect(t, "no programs", m, api.ErrArg)
	if l := Ways(m, 2); !slices.Equal(l, []int{0, 4}) {
		t.Errorf("Ways without programs: %v", l)
	}
}

// P13.3: each link is in one Ways and in one Into, once; Way tells its place, and that alone.
func TestEachLinkOnce(t *testing.T) {
	for _, n := range sizes() {
		m := full(n)
		slices.Reverse(m.Links)
		ways, into, way := make([]int, n*n), make([]int, n*n), make([]int, n*n)
		for k := range n {
			for _, at := range Ways(m, k) {
				ways[at]++
			}
			for _, at := range Into(m, k) {
				into[at]++
			}
			for to := range n {
				way[Way(m, k, to)]++
			}
		}
		ones := slices.Repeat([]int{1}, n*n)
		if !slices.Equal(ways, ones) || !slices.Equal(into, ones) || !slices.Equal(way, ones) {
			t.Errorf("of %d processes: %v, %v, %v", n, ways, into, way)
		}
	}
}

// P13.2: World is the process's program, its number, its links in the order of Ways, the seed.
func TestWorld(t *testing.T) {
	m := few()
	for n, want := range [][]int{{1, 3, 5, 6}, {2}, {0, 4}, nil} {
		w, e := World(m, n)
		if e != api.OK || w.Self != n || w.Seed != 77 || !slices.Equal(w.Prog, program(n)) || len(w.Links) != len(want) {
			t.Fatalf("World(%d): %v, %d", n, w, e)
		}
		for k, at := range want {
			if w.Links[k] != m.Links[at] {
				t.Errorf("World(%d): link %d is %v, want %v", n, k, w.Links[k], m.Links[at])
			}
		}
	}
	for _, m.Seed = range []uint64{0, 1, 1 << 63, math.MaxUint64} {
		if w, e := World(m, 3); e != api.OK || w.Seed != m.Seed {
			t.Errorf("World with the seed %d: %v, %d", m.Seed, w, e)
		}
	}
}

// zeroWorld tells whether w is what is answered beside an error.
func zeroWorld(w api.World) bool {
	return w.Self == 0 && w.Seed == 0 && len(w.Prog) == 0 && len(w.Links) == 0
}

// P13.2, P2: World of what is no process; of all that are there are no errors.
func TestWorldOfNoProcess(t *testing.T) {
	for _, n := range sizes() {
		m := full(n)
		for k := range n {
			if w, e := World(m, k); e != api.OK || w.Self != k || len(w.Links) != n || !slices.Equal(w.Prog, program(k)) {
				t.Errorf("World(%d) of %d: %v, %d", k, n, w, e)
			}
		}
		for _, no := range noProcesses(n) {
			if w, e := World(m, no); e != api.ErrArg || !zeroWorld(w) {
				t.Errorf("World(%d) of %d: %v, %d", no, n, w, e)
			}
		}
	}
}

// P13.2, P2: World of a model that may not be: Check's error, of what is no process as well.
func TestWorldOfRefused(t *testing.T) {
	for _, l := range faults() {
		for _, f := range l {
			m := full(3)
			f.set(&m)
			for _, n := range append(noProcesses(len(m.Progs)), 0, 1, 2) {
				if w, e := World(m, n); e != f.number || !zeroWorld(w) {
					t.Errorf("World(%d): %v, %d, want %d", n, w, e, f.number)
				}
			}
		}
	}
}

// P13.2: each start is a message, in their order, not that of their times.
func TestStarts(t *testing.T) {
	want := []api.Message{
		{Key: api.Key{Time: 9, From: -1, Seq: 0}, To: 3, Value: -4, Uid: 0},
		{Key: api.Key{Time: 9, From: -1, Seq: 1}, To: 0, Value: 6, Uid: 1},
		{Key: api.Key{Time: 2, From: -1, Seq: 2}, To: 3, Value: 0, Uid: 2},
		{Key: api.Key{Time: 9, From: -1, Seq: 3}, To: 3, Value: -4, Uid: 3},
	}
	m := few()
	for k := range want {
		m.Starts = few().Starts[:k]
		if l := Starts(m); !slices.Equal(l, want[:k]) {
			t.Errorf("of %d starts: %v, want %v", k, l, want[:k])
		}
	}
	m.Starts = []api.Start{{To: 0, Time: api.MaxTime, Value: math.MinInt64}, {To: 3, Value: math.MaxInt64}}
	last := []api.Message{
		{Key: api.Key{Time: api.MaxTime, From: -1, Seq: 0}, To: 0, Value: math.MinInt64, Uid: 0},
		{Key: api.Key{Time: 0, From: -1, Seq: 1}, To: 3, Value: math.MaxInt64, Uid: 1},
	}
	if l := Starts(m); !slices.Equal(l, last) {
		t.Errorf("Starts: %v, want %v", l, last)
	}
}

// P13.2: MaxEvents starts and one more, of a model that may not be as well.
func TestManyStarts(t *testing.T) {
	for _, k := range []int{4095, 4096, 4097} {
		m := modelOf(16)
		m.Starts = starts(k, 16)
		l := Starts(m)
		if len(l) != k {
			t.Fatalf("%d starts: %d messages", k, len(l))
		}
		for at, x := range l {
			s := m.Starts[at]
			if (x != api.Message{Key: api.Key{Time: s.Time, From: api.Outside, Seq: at}, To: s.To, Value: s.Value, Uid: at}) {
				t.Fatalf("start %d: %v, of %v", at, x, s)
			}
		}
	}
}

// P13.2: Starts of a model that may not be tells its starts as they stand there.
func TestStartsOfRefused(t *testing.T) {
	m := api.Model{Starts: []api.Start{{To: -1, Time: -5, Value: 1}, {To: math.MaxInt, Time: math.MaxInt64}}, End: -1}
	want := []api.Message{
		{Key: api.Key{Time: -5, From: -1}, To: -1, Value: 1},
		{Key: api.Key{Time: math.MaxInt64, From: -1, Seq: 1}, To: math.MaxInt, Uid: 1},
	}
	if l := Starts(m); !slices.Equal(l, want) {
		t.Errorf("Starts: %v, want %v", l, want)
	}
	hold(t, m)
}

// P13.2: what is answered is fit for the other layers: handlers run in each world, events may be of each start.
func TestFitForOthers(t *testing.T) {
	for _, n := range sizes() {
		m := full(n)
		for k := range n {
			w, _ := World(m, k)
			if e := vm.Check(w); e != api.OK {
				t.Errorf("World(%d) of %d: vm.Check = %d", k, n, e)
			}
		}
		for _, x := range Starts(m) {
			if e := event.Check(x); e != api.OK {
				t.Errorf("%v: event.Check = %d", x, e)
			}
		}
	}
}

// roomyModel is m with room behind each of its lists, in which something stands.
func roomyModel(m api.Model) api.Model {
	m.Progs = roomy(m.Progs, nil)
	for n := range m.Progs {
		m.Progs[n] = roomy(m.Progs[n], api.Instr{Op: 9})
	}
	m.Links, m.Starts = roomy(m.Links, api.Link{From: 9}), roomy(m.Starts, api.Start{To: 9})
	return m
}

// P4: no call writes into the room behind a list that it was given, nor answers that room.
func TestRoomBehindLists(t *testing.T) {
	for _, n := range sizes() {
		m := roomyModel(full(n))
		hold(t, m)
		kept := copiedModel(m)
		toldOf(m, askedOf(m)).spoil()
		if hasModelChanged(m, kept) {
			t.Errorf("of %d processes: the room behind a list has changed", n)
		}
	}
}

// P4: processes that have one program are answered one each.
func TestOneProgramOfAll(t *testing.T) {
	m := full(3)
	for n := range m.Progs {
		m.Progs[n] = m.Progs[0]
	}
	a, _ := World(m, 0)
	b, _ := World(m, 1)
	c, _ := World(m, 1)
	spoil(a.Prog, api.Instr{Op: 1})
	spoil(c.Prog, api.Instr{Op: 2})
	if !slices.Equal(b.Prog, program(0)) || !slices.Equal(m.Progs[2], program(0)) {
		t.Errorf("worlds share a program: %v, %v", b.Prog, m.Progs[2])
	}
}
