package vm

import (
	"math"
	"math/big"
	"slices"
	"testing"

	"isochron/api"
	"isochron/draw"
)

func instr(op, a, b, c int) api.Instr { return api.Instr{Op: op, A: a, B: b, C: c} }

// linksOf is so many links, each of which may be; the i-th leads to the process i + 1 (modulo 16) and has the Look i + 1.
func linksOf(n int) []api.Link {
	l := make([]api.Link, n)
	for i := range l {
		l[i] = api.Link{From: 3, To: (i + 1) % 16, Look: int64(i + 1), Loose: i%2 == 0}
	}
	return l
}

// linkOf is a single link of that Look.
func linkOf(look int64) []api.Link { return []api.Link{{To: 1, Look: look}} }

// worldOf is a world of process 3 in which that program may be run.
func worldOf(links []api.Link, prog ...api.Instr) api.World {
	return api.World{Prog: prog, Self: 3, Links: links, Seed: 77}
}

func eventAt(time, value int64) api.Message {
	return api.Message{Key: api.Key{Time: time, From: 2, Seq: 4}, To: 3, Value: value, Uid: 6}
}

// numbers are those at which 64 bits with a sign change what comes of them, and their neighbours.
func numbers() []int64 {
	l := []int64{0, 3, 7, 10, 16, 255, 256, 1000003}
	for _, bit := range []int{0, 1, 31, 32, 33, 61, 62} {
		l = append(l, 1<<bit-1, 1<<bit, 1<<bit+1)
	}
	for _, x := range slices.Clone(l) {
		l = append(l, -x)
	}
	l = append(l, math.MaxInt64-1, math.MaxInt64, math.MinInt64, math.MinInt64+1)
	slices.Sort(l)
	return slices.Compact(l)
}

// wrapped is x modulo 2^64, as a number with a sign.
func wrapped(x *big.Int) int64 {
	two64 := new(big.Int).Lsh(big.NewInt(1), 64)
	return int64(new(big.Int).Mod(x, two64).Uint64())
}

// exact is what the document says of a kind with two registers, by numbers that can't go round.
func exact(op int, b, c int64) int64 {
	x, y, z := big.NewInt(b), big.NewInt(c), new(big.Int)
	switch op {
	case 3:
		return wrapped(z.Add(x, y))
	case 4:
		return wrapped(z.Sub(x, y))
	case 5:
		return wrapped(z.Mul(x, y))
	case 6:
		if c != 0 {
			return wrapped(z.Quo(x, y))
		}
	case 7:
		if c != 0 {
			return wrapped(z.Rem(x, y))
		}
	case 8:
		if x.Cmp(y) < 0 {
			return 1
		}
	case 9:
		if x.Cmp(y) == 0 {
			return 1
		}
	}
	return 0
}

// exactLink is which of n links x chooses: a rest that is 0 or more.
func exactLink(x int64, n int) int {
	return int(new(big.Int).Mod(big.NewInt(x), big.NewInt(int64(n))).Int64())
}

// exactAfter tells whether time and delay are more than MaxTime.
func exactAfter(time, delay int64) bool {
	sum := new(big.Int).Add(big.NewInt(time), big.NewInt(delay))
	return sum.Cmp(big.NewInt(1<<62-1)) > 0
}

// sum is all that Run answers.
type sum struct {
	state api.State
	sent  []api.Out
	e     api.Errno
}

func runOf(w api.World, s api.State, m api.Message) sum {
	state, sent, e := Run(w, s, m)
	return sum{state, sent, e}
}

func (x sum) same(y sum) bool {
	return x.state == y.state && x.e == y.e && slices.Equal(x.sent, y.sent)
}

// reference is Run, read off the document, of a world, a state and an event that may be.
func reference(w api.World, s api.State, m api.Message) sum {
	r := map[int]int64{}
	for i, x := range s.Regs {
		r[i] = x
	}
	draws, at, done := s.Draws, 0, 0
	var sent []api.Out
	for ; at < len(w.Prog) && done < 4096; done++ {
		i := w.Prog[at]
		next := at + 1
		switch i.Op {
		case 0:
			next = len(w.Prog)
		case 1:
			r[i.A] = int64(i.B)
		case 2:
			r[i.A] = r[i.B]
		case 3, 4, 5, 6, 7, 8, 9:
			r[i.A] = exact(i.Op, r[i.B], r[i.C])
		case 10:
			next = i.A
		case 11:
			if r[i.A] == 0 {
				next = i.B
			}
		case 12:
			if len(w.Links) == 0 || len(sent) >= 8 {
				break
			}
			out := api.Out{Link: exactLink(r[i.A], len(w.Links)), Delay: r[i.B], Value: r[i.C]}
			if out.Delay < w.Links[out.Link].Look {
				return sum{s, nil, 50}
			}
			if exactAfter(m.Key.Time, out.Delay) {
				return sum{s, nil, 10}
			}
			sent = append(sent, out)
		case 13:
			r[i.A] = draw.Below(w.Seed, w.Self, draws, r[i.B])
			draws++
		case 14:
			r[i.A] = m.Value
		case 15:
			r[i.A] = m.Key.Time
		case 16:
			r[i.A] = int64(w.Self)
		}
		at = next
	}
	end := api.State{Draws: draws, Sent: s.Sent + len(sent)}
	for i := range end.Regs {
		end.Regs[i] = r[i]
	}
	return sum{end, sent, 0}
}

// P5.1: Check of worlds that may be, up to the document's edges.
func TestCheckOfWorldsThatMayBe(t *testing.T) {
	for name, w := range map[string]api.World{
		"nothing":     {},
		"no lists":    {Prog: []api.Instr{}, Links: []api.Link{}},
		"Self 15":     {Self: 15},
		"To 0":        {Links: []api.Link{{To: 0, Look: 1}}},
		"To 15":       {Links: []api.Link{{To: 15, Look: 1}}},
		"to itself":   {Self: 2, Links: []api.Link{{From: 2, To: 2, Look: 1}}},
		"Look 1":      {Links: []api.Link{{To: 1, Look: 1}}},
		"MaxTime - 1": {Links: []api.Link{{To: 1, Look: api.MaxTime - 1}}},
		"MaxTime":     {Links: []api.Link{{To: 1, Look: api.MaxTime}}},
		"Loose":       {Links: []api.Link{{To: 1, Look: 1, Loose: true}}},
		"any From":    {Links: []api.Link{{From: math.MinInt, To: 1, Look: 1}, {From: 99, To: 1, Look: 1}}},
		"any Seed":    {Seed: math.MaxUint64},
		"MaxSlots":    {Links: linksOf(1024)},
		"MaxCode":     {Prog: make([]api.Instr, 256)},
	} {
		if e := Check(w); e != api.OK {
			t.Errorf("%s: Check = %d", name, e)
		}
		if _, _, e := Run(w, api.State{}, eventAt(0, 0)); e != api.OK {
			t.Errorf("%s: Run: %d", name, e)
		}
	}
}

// wrongWorlds are such as may not be, by their errors.
func wrongWorlds() map[string]struct {
	w api.World
	e api.Errno
} {
	type wrong = struct {
		w api.World
		e api.Errno
	}
	l := map[string]wrong{
		"MaxSlots and 1":  {api.World{Links: linksOf(1025)}, 1},
		"many links":      {api.World{Links: linksOf(5000)}, 1},
		"a link of zeros": {api.World{Links: []api.Link{{}}}, 1},
		"MaxCode and 1":   {api.World{Prog: make([]api.Instr, 257)}, 2},
		"no kind":         {api.World{Prog: []api.Instr{{Op: 17}}}, 130},
		"no register":     {worldOf(nil, instr(2, 16, 0, 0)), 130},
		"no place":        {worldOf(nil, instr(10, 2, 0, 0)), 130},
		"behind the end":  {worldOf(nil, instr(0, 0, 0, 0), instr(11, 0, 3, 0)), 130},
		// The program's error is told first.
		"long, Self":      {api.World{Prog: make([]api.Instr, 257), Self: 16}, 2},
		"long, no kind":   {api.World{Prog: slices.Repeat([]api.Instr{{Op: -1}}, 257)}, 2},
		"no kind, Self":   {api.World{Prog: []api.Instr{{Op: 17}}, Self: -1}, 130},
		"no kind, a link": {api.World{Prog: []api.Instr{{Op: -1}}, Links: []api.Link{{}}}, 130},
		"no kind, links":  {api.World{Prog: []api.Instr{{Op: -1}}, Links: linksOf(1025)}, 130},
	}
	for _, x := range []int{math.MinInt, -1 << 32, -16, -1, 16, 17, 256, 1 << 32, math.MaxInt} {
		l["Self "+big.NewInt(int64(x)).String()] = wrong{api.World{Self: x}, 1}
		for place := range 3 {
			links := linksOf(3)
			links[place].To = x
			l["To "+big.NewInt(int64(x)).String()+" at "+string(rune('0'+place))] = wrong{api.World{Links: links}, 1}
		}
	}
	for _, x := range []int64{math.MinInt64, -1 << 62, -1 << 32, -1, 0, 1 << 62, 1<<62 + 1, math.MaxInt64} {
		for place := range 3 {
			links := linksOf(3)
			links[place].Look = x
			l["Look "+big.NewInt(x).String()+" at "+string(rune('0'+place))] = wrong{api.World{Links: links}, 1}
		}
	}
	return l
}

// P5.1 and P5.2: Check of worlds that may not be; Run answers its error, ahead of those of its own, and nothing beside it.
func TestWorldsThatMayNotBe(t *testing.T) {
	for name, c := range wrongWorlds() {
		if e := Check(c.w); e != c.e {
			t.Errorf("%s: Check = %d, want %d", name, e, c.e)
		}
		for _, s := range []api.State{{Regs: [8]int64{1, 2}, Draws: 3, Sent: 4}, {Regs: [8]int64{1}, Draws: -1}} {
			for _, m := range []api.Message{eventAt(5, 6), eventAt(-1, 6)} {
				if got := runOf(c.w, s, m); !got.same(sum{e: c.e}) {
					t.Errorf("%s: Run = %v, want %d alone", name, got, c.e)
				}
			}
		}
	}
}

// P5.2: an event that event.Check refuses, and counts that can't be, are refused, with nothing beside.
func TestRunRefuses(t *testing.T) {
	w := worldOf(linkOf(1), instr(1, 0, 5, 0), instr(12, 0, 0, 0))
	fine := api.State{Regs: [8]int64{7, 8}, Draws: 1, Sent: 2}
	states := map[string]api.State{}
	for name, x := range map[string]int{
		"-1": -1, "-2^50": -1 << 50, "the least": math.MinInt,
		"2^50 and 1": 1<<50 + 1, "2^51": 1 << 51, "the greatest": math.MaxInt,
	} {
		states["Draws "+name] = api.State{Regs: fine.Regs, Draws: x, Sent: 2}
		states["Sent "+name] = api.State{Regs: fine.Regs, Draws: 1, Sent: x}
		states["both "+name] = api.State{Regs: fine.Regs, Draws: x, Sent: x}
	}
	for name, s := range states {
		if got := runOf(w, s, eventAt(10, 5)); !got.same(sum{e: 1}) {
			t.Errorf("%s: %v, want ErrArg alone", name, got)
		}
	}
	for name, m := range map[string]api.Message{
		"Time -1":      eventAt(-1, 0),
		"Time Never":   eventAt(1<<62, 0),
		"the least":    eventAt(math.MinInt64, 0),
		"the greatest": eventAt(math.MaxInt64, 0),
		"From -2":      {Key: api.Key{From: -2}},
		"From 16":      {Key: api.Key{From: 16}},
		"Seq -1":       {Key: api.Key{Seq: -1}},
		"Uid -1":       {Uid: -1},
		"To -1":        {To: -1},
		"To 16":        {To: 16},
	} {
		if got := runOf(w, fine, m); !got.same(sum{e: 1}) {
			t.Errorf("%s: %v, want ErrArg alone", name, got)
		}
		// Nothing is done ahead of the refusal: here a fault would end it.
		if got := runOf(worldOf(linkOf(1), instr(12, 8, 8, 8)), fine, m); !got.same(sum{e: 1}) {
			t.Errorf("%s, with a fault: %v, want ErrArg alone", name, got)
		}
	}
}

// P5.2: events and counts that may be, up to the document's edges; whom the event is to, and whether it is an anti-message, is not asked.
func TestRunTakesWhatMayBe(t *testing.T) {
	w := worldOf(linkOf(1), instr(1, 8, 1, 0), instr(13, 1, 8, 0), instr(12, 8, 8, 8))
	for _, x := range []int{0, 1, 1<<50 - 1, 1 << 50} {
		s, l, e := Run(w, api.State{Draws: x, Sent: 1<<50 - x}, eventAt(10, 5))
		if want := (api.State{Draws: x + 1, Sent: 1<<50 - x + 1}); e != api.OK || s != want || len(l) != 1 {
			t.Errorf("Draws %d: %v, %v, %d", x, s, l, e)
		}
	}
	for name, m := range map[string]api.Message{
		"the least":      {Key: api.Key{From: -1}},
		"nearly MaxTime": {Key: api.Key{Time: 1<<62 - 2, From: 15, Seq: math.MaxInt}, To: 15, Uid: math.MaxInt},
		"to another":     {Key: api.Key{Time: 5}, To: 9},
		"an anti":        {Key: api.Key{Time: 5}, To: 3, Anti: true},
	} {
		want := sum{api.State{Regs: [8]int64{5, 0}, Draws: 1, Sent: 1}, []api.Out{{Delay: 1, Value: 1}}, 0}
		if got := runOf(w, api.State{Regs: [8]int64{5, 6}}, m); !got.same(want) {
			t.Errorf("%s: %v, want %v", name, got, want)
		}
	}
	m := eventAt(1<<62-1, 9)
	if s, _, e := Run(worldOf(nil, instr(15, 0, 0, 0)), api.State{}, m); e != api.OK || s.Regs[0] != 1<<62-1 {
		t.Errorf("at MaxTime: %v, %d", s, e)
	}
}

// P5.2: the document's example: set 8 3; value 9; send 8 8 9.
func TestRunOfTheExample(t *testing.T) {
	prog := []api.Instr{instr(1, 8, 3, 0), instr(14, 9, 0, 0), instr(12, 8, 8, 9)}
	want := sum{api.State{Sent: 1}, []api.Out{{Link: 0, Delay: 3, Value: 42}}, 0}
	if got := runOf(worldOf(linkOf(2), prog...), api.State{}, eventAt(10, 42)); !got.same(want) {
		t.Errorf("Look 2: %v, want %v", got, want)
	}
	if got := runOf(worldOf(linkOf(3), prog...), api.State{}, eventAt(10, 42)); !got.same(want) {
		t.Errorf("Look 3: %v, want %v", got, want)
	}
	s := api.State{Regs: [8]int64{1, 2, 3, 4, 5, 6, 7, 8}, Draws: 9, Sent: 10}
	if got := runOf(worldOf(linkOf(4), prog...), s, eventAt(10, 42)); !got.same(sum{s, nil, api.ErrLook}) {
		t.Errorf("Look 4: %v, want the state as it was and ErrLook", got)
	}
}

// P5.2: each kind alone, in registers of the state.
func TestEachKind(t *testing.T) {
	before := api.State{Regs: [8]int64{10, 11, -12, 13, 14, 15, 16, 17}, Draws: 5, Sent: 6}
	for name, c := range map[string]struct {
		i    api.Instr
		reg  int
		want int64
	}{
		"halt":              {instr(0, 0, 0, 0), 0, 10},
		"set":               {instr(1, 3, 99, 0), 3, 99},
		"set the least":     {instr(1, 7, -1<<31, 0), 7, -1 << 31},
		"set the greatest":  {instr(1, 0, 1<<31-1, 0), 0, 1<<31 - 1},
		"move":              {instr(2, 1, 2, 0), 1, -12},
		"move its own":      {instr(2, 1, 1, 0), 1, 11},
		"add":               {instr(3, 0, 1, 2), 0, -1},
		"add its own":       {instr(3, 1, 1, 1), 1, 22},
		"sub":               {instr(4, 0, 1, 2), 0, 23},
		"sub the other way": {instr(4, 0, 2, 1), 0, -23},
		"mul":               {instr(5, 0, 1, 2), 0, -132},
		"div":               {instr(6, 0, 7, 1), 0, 1},
		"div below 0":       {instr(6, 0, 2, 0), 0, -1},
		"mod":               {instr(7, 0, 7, 1), 0, 6},
		"mod below 0":       {instr(7, 0, 2, 0), 0, -2},
		"mod by one below":  {instr(7, 0, 3, 2), 0, 1},
		"less":              {instr(8, 0, 2, 1), 0, 1},
		"not less":          {instr(8, 0, 1, 2), 0, 0},
		"not less, same":    {instr(8, 0, 1, 1), 0, 0},
		"same":              {instr(9, 0, 2, 2), 0, 1},
		"not same":          {instr(9, 0, 1, 2), 0, 0},
		"value":             {instr(14, 4, 0, 0), 4, -77},
		"time":              {instr(15, 5, 0, 0), 5, 1234},
		"self":              {instr(16, 6, 0, 0), 6, 3},
		"jump":              {instr(10, 1, 0, 0), 0, 10},
		"zero":              {instr(11, 8, 1, 0), 0, 10},
		"send, no links":    {instr(12, 0, 0, 0), 0, 10},
		"div by 0":          {instr(6, 0, 1, 8), 0, 0},
		"mod by 0":          {instr(7, 0, 1, 8), 0, 0},
	} {
		want := before
		want.Regs[c.reg] = c.want
		if got := runOf(worldOf(nil, c.i), before, eventAt(1234, -77)); !got.same(sum{want, nil, 0}) {
			t.Errorf("%s: %v, want %v", name, got, want)
		}
	}
	want := before
	want.Regs[0], want.Draws = draw.Below(77, 3, 5, 17), 6
	if got := runOf(worldOf(nil, instr(13, 0, 7, 0)), before, eventAt(1234, -77)); !got.same(sum{want, nil, 0}) {
		t.Errorf("draw: %v, want %v", got, want)
	}
}

// P5.2: sums, differences, products, quotients, rests and comparisons at all edges of 64 bits, in registers of the state and in others.
func TestReckoningAtAllEdges(t *testing.T) {
	for op := 3; op <= 9; op++ {
		low := worldOf(nil, instr(op, 2, 0, 1))
		high := worldOf(nil, instr(2, 14, 0, 0), instr(2, 15, 1, 0), instr(op, 13, 14, 15), instr(2, 2, 13, 0))
		for _, b := range numbers() {
			for _, c := range numbers() {
				s := api.State{Regs: [8]int64{b, c, 99, 3, 4, 5, 6, 7}}
				want := s
				want.Regs[2] = exact(op, b, c)
				for _, w := range []api.World{low, high} {
					if got := runOf(w, s, eventAt(0, 0)); !got.same(sum{want, nil, 0}) {
						t.Fatalf("kind %d of %d and %d: %v, want %d", op, b, c, got, want.Regs[2])
					}
				}
			}
		}
	}
}

// P5.2: the chapter's own words of quotients and of wrapping round, in numbers.
func TestReckoningInNumbers(t *testing.T) {
	for name, c := range map[string]struct {
		op         int
		b, c, want int64
	}{
		"the least by -1":         {6, math.MinInt64, -1, math.MinInt64},
		"its rest":                {7, math.MinInt64, -1, 0},
		"by 0":                    {6, 5, 0, 0},
		"the rest by 0":           {7, 5, 0, 0},
		"the least by 0":          {6, math.MinInt64, 0, 0},
		"0 by 0":                  {7, 0, 0, 0},
		"cut towards 0":           {6, -7, 2, -3},
		"by a number below 0":     {6, 7, -2, -3},
		"both below 0":            {6, -7, -2, 3},
		"a rest below 0":          {7, -7, 2, -1},
		"a rest by one below 0":   {7, 7, -2, 1},
		"both, the rest":          {7, -7, -2, -1},
		"a sum wraps round":       {3, math.MaxInt64, 1, math.MinInt64},
		"and back":                {3, math.MinInt64, -1, math.MaxInt64},
		"a difference":            {4, math.MinInt64, 1, math.MaxInt64},
		"0 less the least":        {4, 0, math.MinInt64, math.MinInt64},
		"a product":               {5, 1 << 32, 1 << 32, 0},
		"a product to the sign":   {5, 1 << 32, 1 << 31, math.MinInt64},
		"the least times -1":      {5, math.MinInt64, -1, math.MinInt64},
		"the greatest, twice":     {5, math.MaxInt64, 2, -2},
		"less, far apart":         {8, math.MinInt64, math.MaxInt64, 1},
		"not less, far apart":     {8, math.MaxInt64, math.MinInt64, 0},
		"same at the ends":        {9, math.MinInt64, math.MinInt64, 1},
		"not same, but for signs": {9, math.MinInt64, math.MaxInt64, 0},
	} {
		s := api.State{Regs: [8]int64{c.b, c.c}}
		if got, _, e := Run(worldOf(nil, instr(c.op, 2, 0, 1)), s, eventAt(0, 0)); e != api.OK || got.Regs[2] != c.want {
			t.Errorf("%s: %d, %d, want %d", name, got.Regs[2], e, c.want)
		}
	}
}

// P5.2: registers 0 to 7 are those of the state and stay; 8 to 15 are 0 at first, each time, and are lost.
func TestRegisters(t *testing.T) {
	s := api.State{Regs: [8]int64{100, 101, 102, 103, 104, 105, 106, 107}}
	for reg := range 16 {
		want := s
		if reg < 8 {
			want.Regs[0] = 100 + int64(reg)
		} else {
			want.Regs[0] = 0
		}
		w := worldOf(nil, instr(2, 0, reg, 0), instr(1, reg, 5, 0))
		if reg < 8 {
			want.Regs[reg] = 5
		}
		for range 2 {
			if got := runOf(w, s, eventAt(0, 0)); !got.same(sum{want, nil, 0}) {
				t.Errorf("register %d: %v, want %v", reg, got, want)
			}
		}
	}
	if got := runOf(worldOf(nil), s, eventAt(0, 0)); !got.same(sum{s, nil, 0}) {
		t.Errorf("a program without instructions: %v, want %v", got, s)
	}
}

// P5.2: instructions are done from the first one on, one by one, but for jumps; OpHalt and the end end it.
func TestTheWayThroughAProgram(t *testing.T) {
	one := func(reg int) api.Instr { return instr(1, reg, 1, 0) }
	halt, toEnd := instr(0, 0, 0, 0), instr(10, 3, 0, 0)
	for name, c := range map[string]struct {
		prog []api.Instr
		want [8]int64
	}{
		"to the end":         {[]api.Instr{one(0), one(1), one(2)}, [8]int64{1, 1, 1}},
		"halt first":         {[]api.Instr{halt, one(1), one(2)}, [8]int64{}},
		"halt amid":          {[]api.Instr{one(0), halt, one(2)}, [8]int64{1}},
		"halt last":          {[]api.Instr{one(0), one(1), halt}, [8]int64{1, 1}},
		"a jump to the end":  {[]api.Instr{one(0), toEnd, one(2)}, [8]int64{1}},
		"a jump on":          {[]api.Instr{one(0), instr(10, 3, 0, 0), one(2), one(3)}, [8]int64{1, 0, 0, 1}},
		"a jump to the next": {[]api.Instr{one(0), instr(10, 2, 0, 0), one(2)}, [8]int64{1, 0, 1}},
		"zero, of 0":         {[]api.Instr{instr(11, 7, 2, 0), one(1), one(2)}, [8]int64{0, 0, 1}},
		"zero, of 1":         {[]api.Instr{one(7), instr(11, 7, 3, 0), one(2), one(3)}, [8]int64{0, 0, 1, 1, 0, 0, 0, 1}},
		"zero, of -1":        {[]api.Instr{instr(1, 7, -1, 0), instr(11, 7, 3, 0), one(2), one(3)}, [8]int64{0, 0, 1, 1, 0, 0, 0, -1}},
		"zero, to the end":   {[]api.Instr{instr(11, 15, 3, 0), one(1), one(2)}, [8]int64{}},
		"back, then over it": {[]api.Instr{instr(11, 0, 2, 0), halt, one(0), one(1), instr(10, 0, 0, 0)}, [8]int64{1, 1}},
		"zero, over one":     {[]api.Instr{instr(9, 1, 0, 9), one(0), instr(2, 9, 0, 0), instr(11, 8, 5, 0), one(2), instr(8, 3, 1, 0), one(4)}, [8]int64{1, 1, 0, 0, 1}},
	} {
		if got, _, e := Run(worldOf(nil, c.prog...), api.State{}, eventAt(0, 0)); e != api.OK || got.Regs != c.want {
			t.Errorf("%s: %v, %d, want %v", name, got.Regs, e, c.want)
		}
	}
}

// lateProg does 4093 + pad instructions (two, and 1364 rounds of three, the last one without its jump; then the padding) ahead of the last ones.
func lateProg(pad int, last ...api.Instr) []api.Instr {
	prog := []api.Instr{instr(1, 8, 1364, 0), instr(1, 9, 1, 0), instr(4, 8, 8, 9), instr(11, 8, 5, 0), instr(10, 2, 0, 0)}
	for range pad {
		prog = append(prog, instr(2, 10, 10, 0))
	}
	return append(prog, last...)
}

// P5.2: MaxFuel instructions are done, and no more; what came of them stays. OpHalt, a jump, a send that sends nothing are instructions as all others.
func TestFuel(t *testing.T) {
	m := eventAt(10, 5)
	seven := []api.Instr{instr(1, 0, 7, 0), instr(1, 1, 8, 0)}
	for pad, want := range [][8]int64{{7, 8}, {7, 8}, {7}, {}, {}} {
		if got, _, e := Run(worldOf(nil, lateProg(pad, seven...)...), api.State{}, m); e != api.OK || got.Regs != want {
			t.Errorf("%d instructions ahead: %v, %d, want %v", 4093+pad, got.Regs, e, want)
		}
	}
	send := instr(12, 9, 9, 9)
	for pad, want := range []int{2, 2, 1, 0, 0} {
		s, l, e := Run(worldOf(linkOf(1), lateProg(pad, send, send)...), api.State{Sent: 5}, m)
		if e != api.OK || len(l) != want || s.Sent != 5+want {
			t.Errorf("%d instructions ahead: %d were sent, %v, %d, want %d", 4093+pad, len(l), s, e, want)
		}
	}
	tooSoon := instr(12, 8, 8, 8)
	for pad, want := range []api.Errno{50, 50, 50, 0, 0} {
		if _, _, e := Run(worldOf(linkOf(1), lateProg(pad, tooSoon)...), api.State{}, m); e != want {
			t.Errorf("%d instructions ahead of a fault: %d, want %d", 4093+pad, e, want)
		}
	}
	for n := 1; n <= 6; n++ { // rounds of n additions and a jump
		prog := append(slices.Repeat([]api.Instr{instr(3, 0, 0, 1)}, n), instr(10, 0, 0, 0))
		want := int64(4096/(n+1)*n + 4096%(n+1))
		if got, _, e := Run(worldOf(nil, prog...), api.State{Regs: [8]int64{0, 1}}, m); e != api.OK || got.Regs[0] != want {
			t.Errorf("rounds of %d: %d, %d, want %d", n, got.Regs[0], e, want)
		}
	}
	for name, i := range map[string]api.Instr{
		"jump": instr(10, 0, 0, 0), "zero": instr(11, 8, 0, 0),
	} {
		if got := runOf(worldOf(nil, i), api.State{Sent: 3}, m); !got.same(sum{api.State{Sent: 3}, nil, 0}) {
			t.Errorf("%s to itself: %v", name, got)
		}
	}
	draws := worldOf(nil, instr(13, 0, 1, 0), instr(10, 0, 0, 0))
	if got, _, e := Run(draws, api.State{Draws: 1 << 50}, m); e != api.OK || got.Draws != 1<<50+2048 {
		t.Errorf("draws without an end: %v, %d", got, e)
	}
	idle := worldOf(nil, instr(12, 0, 0, 0), instr(3, 0, 0, 1), instr(10, 0, 0, 0))
	if got, _, e := Run(idle, api.State{Regs: [8]int64{0, 1}}, m); e != api.OK || got.Regs[0] != 1365 {
		t.Errorf("rounds with a send that sends nothing: %v, %d", got, e)
	}
}

// P5.2: OpDraw draws by Seed, Self and Draws, one draw behind the other; Draws is one more even where there is nothing below register B.
func TestDraws(t *testing.T) {
	w := api.World{Seed: 5, Self: 1, Prog: []api.Instr{instr(13, 0, 7, 0), instr(13, 1, 6, 0), instr(13, 2, 7, 0)}}
	got, _, e := Run(w, api.State{Regs: [8]int64{6: -3, 7: 1000}, Draws: 2}, eventAt(0, 0))
	// The first is known from elsewhere: chapter 4's Below(5, 1, 2, 1000).
	want := api.State{Regs: [8]int64{573, 0, draw.Below(5, 1, 4, 1000), 6: -3, 7: 1000}, Draws: 5}
	if e != api.OK || got != want {
		t.Errorf("%v, %d, want %v", got, e, want)
	}
	for _, seed := range []uint64{0, 5, 1 << 63, math.MaxUint64} {
		for _, self := range []int{0, 7, 15} {
			for _, n := range []int{0, 1, 1<<32 + 1, 1 << 50} {
				for _, k := range numbers() {
					w.Seed, w.Self, w.Prog = seed, self, []api.Instr{instr(13, 7, 7, 0)}
					want := api.State{Regs: [8]int64{7: draw.Below(seed, self, n, k)}, Draws: n + 1}
					if got, _, e := Run(w, api.State{Regs: [8]int64{7: k}, Draws: n}, eventAt(3, 4)); e != api.OK || got != want {
						t.Fatalf("draw %d of %X, %d below %d: %v, %d, want %v", n, seed, self, k, got, e, want)
					}
				}
			}
		}
	}
}

// P5.2: OpValue, OpTime and OpSelf at the ends of what may be.
func TestValueTimeSelf(t *testing.T) {
	for _, value := range numbers() {
		for _, time := range []int64{0, 1, 1<<32 + 1, 1<<62 - 1} {
			for _, self := range []int{0, 1, 15} {
				w := api.World{Self: self, Prog: []api.Instr{instr(14, 0, 0, 0), instr(15, 1, 0, 0), instr(16, 2, 0, 0)}}
				got, _, e := Run(w, api.State{}, eventAt(time, value))
				if want := [8]int64{value, time, int64(self)}; e != api.OK || got.Regs != want {
					t.Errorf("%v, %d, want %v", got.Regs, e, want)
				}
			}
		}
	}
}

// P5.2: a link is chosen by the rest, 0 or more, of any number by how many there are.
func TestLinksAreChosen(t *testing.T) {
	for _, n := range []int{1, 2, 3, 4, 5, 7, 16, 1000, 1023, 1024} {
		w := worldOf(linksOf(n), instr(12, 0, 1, 2))
		for _, x := range append(numbers(), int64(n)-1, int64(n), int64(n)+1, -int64(n)-1, -int64(n), 1-int64(n)) {
			want := []api.Out{{Link: exactLink(x, n), Delay: 2000, Value: -9}}
			_, l, e := Run(w, api.State{Regs: [8]int64{x, 2000, -9}}, eventAt(1, 1))
			if e != api.OK || !slices.Equal(l, want) {
				t.Fatalf("%d among %d: %v, %d, want %v", x, n, l, e, want)
			}
		}
	}
	w := worldOf(linksOf(3), instr(12, 0, 1, 2))
	for x, want := range map[int64]int{-1: 2, -2: 1, -3: 0, -4: 2, 4: 1, math.MinInt64: 1, math.MaxInt64: 1} {
		if _, l, e := Run(w, api.State{Regs: [8]int64{x, 9}}, eventAt(1, 1)); e != api.OK || len(l) != 1 || l[0].Link != want {
			t.Errorf("%d among 3: %v, %d, want %d", x, l, e, want)
		}
	}
	// The Look that is asked for is that of the link chosen.
	for x := int64(-6); x <= 6; x++ {
		for delay := int64(0); delay <= 4; delay++ {
			want := api.OK
			if delay < int64(exactLink(x, 3)+1) {
				want = api.ErrLook
			}
			if _, _, e := Run(w, api.State{Regs: [8]int64{x, delay}}, eventAt(1, 1)); e != want {
				t.Errorf("link %d among 3, delay %d: %d, want %d", x, delay, e, want)
			}
		}
	}
}

// P5.2: delays at the Look and at what is left to MaxTime, and beyond them; ErrLook is told first.
func TestDelays(t *testing.T) {
	const last = int64(1<<62 - 1)
	for _, look := range []int64{1, 2, 4, 1000, 1 << 32, last - 1, last} {
		for _, time := range []int64{0, 1, 10, 1 << 32, last / 2, last - 4, last - 1, last} {
			delays := append(numbers(), look-1, look, look+1, last-time-1, last-time, last-time+1)
			for _, delay := range delays {
				s := api.State{Regs: [8]int64{0, delay, 7}, Draws: 1, Sent: 2}
				want := sum{api.State{Regs: s.Regs, Draws: 1, Sent: 3}, []api.Out{{Delay: delay, Value: 7}}, 0}
				switch {
				case delay < look:
					want = sum{s, nil, 50}
				case exactAfter(time, delay):
					want = sum{s, nil, 10}
				}
				if got := runOf(worldOf(linkOf(look), instr(12, 0, 1, 2)), s, eventAt(time, 5)); !got.same(want) {
					t.Fatalf("Look %d, Time %d, delay %d: %v, want %v", look, time, delay, got, want)
				}
			}
		}
	}
}

// P5.2: the delay's edges, in numbers.
func TestDelaysInNumbers(t *testing.T) {
	for name, c := range map[string]struct {
		look, time, delay int64
		want              api.Errno
	}{
		"the Look":              {4, 10, 4, 0},
		"one less":              {4, 10, 3, 50},
		"none":                  {1, 10, 0, 50},
		"below 0":               {1, 10, -1, 50},
		"the least":             {1, 10, math.MinInt64, 50},
		"up to MaxTime":         {1, 10, 1<<62 - 11, 0},
		"one more":              {1, 10, 1<<62 - 10, 10},
		"the greatest":          {1, 10, math.MaxInt64, 10},
		"at MaxTime":            {1, 1<<62 - 1, 1, 10},
		"from 0 to MaxTime":     {1<<62 - 1, 0, 1<<62 - 1, 0},
		"from 0 to Never":       {1<<62 - 1, 0, 1 << 62, 10},
		"too soon and too late": {4, 1<<62 - 2, 3, 50},
		"just too late":         {3, 1<<62 - 3, 3, 10},
	} {
		if _, _, e := Run(worldOf(linkOf(c.look), instr(12, 0, 1, 2)), api.State{Regs: [8]int64{0, c.delay}}, eventAt(c.time, 5)); e != c.want {
			t.Errorf("%s: %d, want %d", name, e, c.want)
		}
	}
}

// P5.2: what was sent stands in order, and Sent counts it.
func TestSentInOrder(t *testing.T) {
	prog := []api.Instr{
		instr(1, 8, 1, 0), instr(1, 9, 50, 0), instr(1, 10, 60, 0),
		instr(12, 8, 9, 10), instr(12, 9, 10, 8), instr(3, 8, 8, 8), instr(12, 8, 10, 9), instr(12, 8, 10, 9),
	}
	want := []api.Out{{Link: 1, Delay: 50, Value: 60}, {Link: 2, Delay: 60, Value: 1}, {Link: 2, Delay: 60, Value: 50}, {Link: 2, Delay: 60, Value: 50}}
	s, l, e := Run(worldOf(linksOf(3), prog...), api.State{Sent: 9}, eventAt(10, 1))
	if e != api.OK || !slices.Equal(l, want) || s != (api.State{Sent: 13}) {
		t.Errorf("%v, %v, %d, want %v", s, l, e, want)
	}
}

// P5.2 and P5.4: MaxSends events are sent and no more; one more is nothing, even if it could not be sent, and what comes behind it is done.
func TestMaxSends(t *testing.T) {
	good, soon, late := instr(12, 8, 9, 10), instr(12, 8, 10, 10), instr(12, 8, 1, 10)
	start := []api.Instr{instr(1, 9, 5, 0)}
	s := api.State{Regs: [8]int64{1: math.MaxInt64}, Sent: 100}
	for n := range 12 {
		for _, more := range []api.Instr{good, soon, late} {
			prog := append(append(slices.Clone(start), slices.Repeat([]api.Instr{good}, n)...), more, instr(1, 0, 3, 0))
			sent := min(n, 8)
			want := sum{e: api.OK}
			switch {
			case n < 8 && more == soon:
				want = sum{s, nil, api.ErrLook}
			case n < 8 && more == late:
				want = sum{s, nil, api.ErrTime}
			case n < 8:
				sent++
				fallthrough
			default:
				want.state = api.State{Regs: [8]int64{3, math.MaxInt64}, Sent: 100 + sent}
				want.sent = slices.Repeat([]api.Out{{Delay: 5}}, sent)
			}
			if got := runOf(worldOf(linkOf(5), prog...), s, eventAt(10, 1)); !got.same(want) {
				t.Errorf("%d and %v: %v, want %v", n, more, got, want)
			}
		}
	}
}

// P5.2: without links a send is nothing, whatever it is that would be sent.
func TestNoLinks(t *testing.T) {
	for _, x := range numbers() {
		s := api.State{Regs: [8]int64{x, x, x}, Sent: 4}
		want := s
		want.Regs[7] = 1
		for _, links := range [][]api.Link{nil, {}} {
			w := worldOf(links, instr(12, 0, 1, 2), instr(1, 7, 1, 0))
			if got := runOf(w, s, eventAt(1<<62-1, 0)); !got.same(sum{want, nil, 0}) {
				t.Errorf("%d: %v, want %v", x, got, want)
			}
		}
	}
}

// P5.2: with a fault the state is as it was and nothing was sent, whatever was done ahead of it; the first fault is told, and nothing behind it is done.
func TestFaults(t *testing.T) {
	s := api.State{Regs: [8]int64{1, math.MaxInt64, 3, 4, 5, 6, 7, 8}, Draws: 20, Sent: 30}
	ahead := []api.Instr{instr(1, 8, 9, 0), instr(12, 8, 8, 8), instr(12, 8, 8, 8), instr(13, 2, 8, 0), instr(1, 5, 99, 0)}
	soon, late := instr(12, 9, 9, 9), instr(12, 9, 1, 9)
	for name, c := range map[string]struct {
		behind []api.Instr
		want   api.Errno
	}{
		"too soon":            {[]api.Instr{soon}, 50},
		"too late":            {[]api.Instr{late}, 10},
		"too soon, then late": {[]api.Instr{soon, late}, 50},
		"too late, then soon": {[]api.Instr{late, soon}, 10},
		"and a halt":          {[]api.Instr{soon, instr(0, 0, 0, 0)}, 50},
		"and more":            {[]api.Instr{late, instr(12, 8, 8, 8), instr(1, 0, 0, 0)}, 10},
		"without an end":      {[]api.Instr{late, instr(10, 6, 0, 0)}, 10},
	} {
		w := worldOf(linksOf(5), append(slices.Clone(ahead), c.behind...)...)
		for range 2 {
			if got := runOf(w, s, eventAt(10, 1)); !got.same(sum{s, nil, c.want}) {
				t.Errorf("%s: %v, want %v and %d", name, got, s, c.want)
			}
		}
	}
	// A fault behind a halt, or that is jumped over, is none.
	for name, i := range map[string]api.Instr{"halt": instr(0, 0, 0, 0), "jump": instr(10, 7, 0, 0), "zero": instr(11, 9, 7, 0)} {
		w := worldOf(linksOf(5), append(slices.Clone(ahead), i, soon)...)
		if got := runOf(w, s, eventAt(10, 1)); got.e != api.OK || len(got.sent) != 2 || got.state.Draws != 21 || got.state.Sent != 32 {
			t.Errorf("%s: %v", name, got)
		}
	}
}

// P5.3: Sends at an ordinary list: the numbers go on from Sent and uid, whom it is to hangs on the link.
func TestSends(t *testing.T) {
	w := api.World{Self: 7, Links: []api.Link{{From: 7, To: 4, Look: 2}, {From: 7, To: 0, Look: 3, Loose: true}, {From: 7, To: 15, Look: 1}}}
	m := api.Message{Key: api.Key{Time: 100, From: 3, Seq: 8}, To: 7, Value: 50, Uid: 60, Anti: true}
	s := api.State{Regs: [8]int64{1, 2, 3}, Draws: 40, Sent: 20}
	l := []api.Out{{Link: 2, Delay: 5, Value: -1}, {Link: 0, Delay: 2, Value: 9}, {Link: 1, Delay: 3, Value: 0}, {Link: 2, Delay: 5, Value: -1}}
	want := []api.Message{
		{Key: api.Key{Time: 105, From: 7, Seq: 20}, To: 15, Value: -1, Uid: 1000},
		{Key: api.Key{Time: 102, From: 7, Seq: 21}, To: 4, Value: 9, Uid: 1001},
		{Key: api.Key{Time: 103, From: 7, Seq: 22}, To: 0, Value: 0, Uid: 1002},
		{Key: api.Key{Time: 105, From: 7, Seq: 23}, To: 15, Value: -1, Uid: 1003},
	}
	if got := Sends(w, s, m, l, 1000); !slices.Equal(got, want) {
		t.Errorf("%v, want %v", got, want)
	}
	for _, l := range [][]api.Out{nil, {}} {
		if got := Sends(w, s, m, l, 1000); len(got) != 0 {
			t.Errorf("of nothing: %v", got)
		}
	}
}

// P5.3: the document's example: one event behind 3, with m's value; and Sends of what Run told stands for all of it.
func TestSendsOfTheExample(t *testing.T) {
	w := worldOf(linkOf(2), instr(1, 8, 3, 0), instr(14, 9, 0, 0), instr(12, 8, 8, 9))
	m, s := eventAt(10, 42), api.State{Sent: 5}
	_, l, _ := Run(w, s, m)
	want := []api.Message{{Key: api.Key{Time: 13, From: 3, Seq: 5}, To: 1, Value: 42, Uid: 8}}
	if got := Sends(w, s, m, l, 8); !slices.Equal(got, want) {
		t.Errorf("%v, want %v", got, want)
	}
}

// P5.3: what can't be sent is left out; the others keep the numbers of their places.
func TestSendsLeavesOut(t *testing.T) {
	w := worldOf(linksOf(2))
	good := api.Out{Link: 1, Delay: 4, Value: 6}
	message := func(i int) api.Message {
		return api.Message{Key: api.Key{Time: 14, From: 3, Seq: 7 + i}, To: 2, Value: 6, Uid: 30 + i}
	}
	for name, bad := range map[string]api.Out{
		"link 2":            {Link: 2, Delay: 4},
		"link 3":            {Link: 3, Delay: 4},
		"link -1":           {Link: -1, Delay: 4},
		"the least link":    {Link: math.MinInt, Delay: 4},
		"the greatest":      {Link: math.MaxInt, Delay: 4},
		"too late by 1":     {Link: 1, Delay: 1<<62 - 10},
		"the last delay":    {Link: 1, Delay: math.MaxInt64},
		"no link, too late": {Link: 2, Delay: math.MaxInt64},
	} {
		got := Sends(w, api.State{Sent: 7}, eventAt(10, 1), []api.Out{bad, good, bad, bad, good}, 30)
		if want := []api.Message{message(1), message(4)}; !slices.Equal(got, want) {
			t.Errorf("%s: %v, want %v", name, got, want)
		}
		if got := Sends(w, api.State{Sent: 7}, eventAt(10, 1), []api.Out{bad, bad}, 30); len(got) != 0 {
			t.Errorf("%s alone: %v", name, got)
		}
	}
	for _, links := range [][]api.Link{nil, {}} {
		if got := Sends(worldOf(links), api.State{}, eventAt(10, 1), []api.Out{good, {}}, 30); len(got) != 0 {
			t.Errorf("without links: %v", got)
		}
	}
}

// P5.3: Sends takes the list as it is: more than MaxSends, delays below the Look, numbers of a world that may not be.
func TestSendsTakesTheListAsItIs(t *testing.T) {
	w := api.World{Self: -5, Prog: []api.Instr{{Op: 99}}, Links: []api.Link{{To: 77, Look: -3}, {To: -8, Look: 1000}}}
	var l []api.Out
	var want []api.Message
	for i := range 100 {
		delay := int64(i - 50)
		l = append(l, api.Out{Link: i % 2, Delay: delay, Value: int64(i)})
		to := 77
		if i%2 == 1 {
			to = -8
		}
		want = append(want, api.Message{Key: api.Key{Time: 20 + delay, From: -5, Seq: i - 3}, To: to, Value: int64(i), Uid: i - 9})
	}
	if got := Sends(w, api.State{Sent: -3}, eventAt(20, 1), l, -9); !slices.Equal(got, want) {
		t.Errorf("%v, want %v", got, want)
	}
}

// P5.3 and P6: which are left out hangs on a difference of 64 bits that goes round; numbers at the ends are no panic.
func TestSendsAtAllEdges(t *testing.T) {
	w := worldOf(linksOf(1))
	times := append(numbers(), 1<<62-1, 1<<62, -1<<62-1, -1<<62)
	for _, time := range times {
		left := wrapped(new(big.Int).Sub(big.NewInt(1<<62-1), big.NewInt(time)))
		for _, delay := range append(numbers(), left-1, left, left+1) {
			for _, n := range []int{0, 1 << 50, math.MaxInt - 1, math.MinInt} {
				var want []api.Message
				if delay <= left {
					sum := wrapped(new(big.Int).Add(big.NewInt(time), big.NewInt(delay)))
					want = append(want, api.Message{Key: api.Key{Time: sum, From: 3, Seq: n + 1}, To: 1, Value: 8, Uid: 1 - n})
				}
				l := []api.Out{{Link: 9}, {Delay: delay, Value: 8}}
				if got := Sends(w, api.State{Sent: n}, eventAt(time, 1), l, -n); !slices.Equal(got, want) {
					t.Fatalf("Time %d, delay %d, number %d: %v, want %v", time, delay, n, got, want)
				}
			}
		}
	}
	// MaxTime less the least number goes round to -2^62 - 1: what is above that is left out.
	for delay, want := range map[int64]int{0: 0, 5: 0, -1 << 62: 0, -1<<62 - 1: 1, math.MinInt64: 1, math.MaxInt64: 0} {
		if got := Sends(w, api.State{}, eventAt(math.MinInt64, 1), []api.Out{{Delay: delay}}, 0); len(got) != want {
			t.Errorf("Time of the least number, delay %d: %v", delay, got)
		}
	}
}

// chance is a row of numbers that hang on a seed.
type chance struct {
	seed uint64
	n    int
}

func (c *chance) below(k int) int {
	c.n++
	return int(draw.Below(c.seed, 0, c.n, int64(k)))
}

// anyProg is a program that may be; its numbers are such that all kinds of ends come about.
func (c *chance) anyProg() []api.Instr {
	n := 1 + c.below(24)
	var l []api.Instr
	for range n {
		i := api.Instr{Op: c.below(17), A: c.below(16), B: c.below(16), C: c.below(16)}
		if c.below(4) == 0 {
			i.Op = api.OpSend
		}
		switch i.Op {
		case api.OpHalt:
			i = api.Instr{}
		case api.OpSet:
			i.B, i.C = c.below(12)-1, 0
		case api.OpMove, api.OpDraw:
			i.C = 0
		case api.OpJump:
			i.A, i.B, i.C = c.below(n+1), 0, 0
		case api.OpZero:
			i.B, i.C = c.below(n+1), 0
		case api.OpValue, api.OpTime, api.OpSelf:
			i.B, i.C = 0, 0
		}
		l = append(l, i)
	}
	return l
}

// anyRun is a world, a state and an event that may be.
func (c *chance) anyRun() (api.World, api.State, api.Message) {
	w := api.World{Prog: c.anyProg(), Self: c.below(16), Seed: c.seed}
	for range c.below(5) {
		w.Links = append(w.Links, api.Link{To: c.below(16), Look: int64(1 + c.below(3))})
	}
	s := api.State{Draws: c.below(9), Sent: c.below(9)}
	edges := numbers()
	for i := range s.Regs {
		s.Regs[i] = int64(1 + c.below(20))
		if c.below(12) == 0 {
			s.Regs[i] = edges[c.below(len(edges))]
		}
	}
	m := eventAt(int64(c.below(100)), int64(c.below(20)))
	if c.below(8) == 0 {
		m.Key.Time = 1<<62 - 1 - int64(c.below(12))
	}
	return w, s, m
}

// P5.2 and P5.4: of many programs Run answers what the document's text comes to; twice the same; what is sent is late enough, and at most MaxSends; all ends come about.
func TestRunOfManyPrograms(t *testing.T) {
	ends := map[api.Errno]int{}
	counts := map[int]int{}
	for seed := range uint64(30000) {
		c := &chance{seed: seed}
		w, s, m := c.anyRun()
		got, want := runOf(w, s, m), reference(w, s, m)
		if !got.same(want) || !got.same(runOf(w, s, m)) {
			t.Fatalf("seed %d: %v of %v, %v, %v: %v, want %v", seed, w.Prog, w.Links, s, m, got, want)
		}
		checkSent(t, w, s, m, got)
		ends[got.e]++
		counts[len(got.sent)]++
	}
	for _, e := range []api.Errno{api.OK, api.ErrLook, api.ErrTime} {
		if ends[e] < 100 {
			t.Errorf("only %d ended with %d", ends[e], e)
		}
	}
	for n := range 9 {
		if counts[n] == 0 {
			t.Errorf("none sent %d", n)
		}
	}
}

// checkSent holds what was sent against P5.4 and, by Sends, P5.3.
func checkSent(t *testing.T, w api.World, s api.State, m api.Message, got sum) {
	t.Helper()
	if len(got.sent) > 8 || got.state.Sent != s.Sent+len(got.sent) {
		t.Fatalf("%d were sent, %v behind %v", len(got.sent), got.state, s)
	}
	l := Sends(w, s, m, got.sent, 70)
	if len(l) != len(got.sent) {
		t.Fatalf("of %v come %v", got.sent, l)
	}
	for i, x := range l {
		link := w.Links[got.sent[i].Link]
		if x.Key.Time < m.Key.Time+link.Look || x.Key.Time > api.MaxTime {
			t.Fatalf("%v sent by %v on %v", x, m, link)
		}
		if x.To != link.To || x.Key.From != w.Self || x.Key.Seq != s.Sent+i || x.Uid != 70+i || x.Anti || x.Value != got.sent[i].Value {
			t.Fatalf("%v is not message %d of %v", x, i, got.sent)
		}
	}
}

// P5.4 and P5: Run hangs on its arguments alone, whatever was run in between, faults too.
func TestRunHangsOnItsArguments(t *testing.T) {
	var before []sum
	for seed := range uint64(200) {
		before = append(before, runOf((&chance{seed: seed}).anyRun()))
	}
	for seed := uint64(199); seed < 200; seed-- {
		if got := runOf((&chance{seed: seed}).anyRun()); !got.same(before[seed]) {
			t.Errorf("seed %d: %v, want %v", seed, got, before[seed])
		}
	}
}

// P4: what is handed in stays as it was, and what is answered is memory of its own.
func TestWhatIsHandedInStays(t *testing.T) {
	prog := []api.Instr{instr(1, 8, 9, 0), instr(12, 8, 8, 8), instr(12, 8, 8, 8), instr(1, 0, 4, 0)}
	links, s, m := linksOf(4), api.State{Regs: [8]int64{1}}, eventAt(10, 1)
	w := worldOf(slices.Clone(links), slices.Clone(prog)...)
	_, first, _ := Run(w, s, m)
	_, second, _ := Run(w, s, m)
	kept := slices.Clone(first)
	messages := Sends(w, s, m, first, 5)
	again := Sends(w, s, m, first, 5)
	keptMessages := slices.Clone(messages)
	Check(w)
	if !slices.Equal(first, kept) || !slices.Equal(w.Prog, prog) || !slices.Equal(w.Links, links) {
		t.Errorf("changed: %v, %v, %v", first, w.Prog, w.Links)
	}
	clear(second)
	clear(again)
	clear(w.Prog)
	clear(w.Links)
	if !slices.Equal(first, kept) || !slices.Equal(messages, keptMessages) {
		t.Errorf("shared: %v, %v", first, messages)
	}
	clear(first)
	if !slices.Equal(messages, keptMessages) {
		t.Errorf("Sends keeps its list: %v", messages)
	}
}

// P3: nil and empty lists are the same.
func TestNilAndEmpty(t *testing.T) {
	s, m := api.State{Regs: [8]int64{4}, Draws: 1, Sent: 2}, eventAt(10, 1)
	for _, w := range []api.World{{}, {Prog: []api.Instr{}, Links: []api.Link{}}} {
		if got := runOf(w, s, m); Check(w) != api.OK || !got.same(sum{s, nil, 0}) {
			t.Errorf("%v: %v", w, got)
		}
	}
}
