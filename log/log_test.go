package log

import (
	"math"
	"slices"
	"testing"

	"isochron/api"
)

// P10.1 to P10.3: the document's example.
func TestExample(t *testing.T) {
	b := bothOf(t, 2, tens(4)...)
	if b.log.Kept() != 2 {
		t.Errorf("Kept behind four: %d", b.log.Kept())
	}
	ahead := b.log.All()[1].Before
	gone := b.back(at(20, 2))
	if len(gone) != 3 || gone[0].Event != at(40, 4) || gone[1].Event != at(30, 3) || gone[2].Event != at(20, 2) {
		t.Errorf("Back: %v", gone)
	}
	if b.log.Kept() != 1 || b.log.Len() != 1 || b.log.State() != ahead {
		t.Errorf("behind Back: %d kept, %d entries, %v", b.log.Kept(), b.log.Len(), b.log.State())
	}
	b.check()
}

// The whole's example 6: Back of the second of two tells one entry, its state ahead.
func TestExampleOfTheWhole(t *testing.T) {
	b := bothOf(t, 5, at(10, 1))
	ahead := b.log.State()
	b.do(at(20, 2), 7, nil)
	gone := b.back(at(20, 2))
	if len(gone) != 1 || gone[0].Event != at(20, 2) || gone[0].Before != ahead || b.log.State() != ahead {
		t.Errorf("Back: %v, State: %v", gone, b.log.State())
	}
}

// worldWith is the world of these tests, changed.
func worldWith(change func(w *api.World)) api.World {
	w := world()
	change(&w)
	return w
}

// P10.1: what vm.Check tells of a world New tells, ahead of what is wrong beside it.
func TestNewOfWorldsThatMayNotBe(t *testing.T) {
	for i, c := range []struct {
		w    api.World
		want api.Errno
	}{
		{worldWith(func(w *api.World) { w.Prog = make([]api.Instr, 257) }), 2},
		{worldWith(func(w *api.World) { w.Prog = make([]api.Instr, 257); w.Self = -1 }), 2},
		{worldWith(func(w *api.World) { w.Prog[0].A = 16 }), 130},
		{worldWith(func(w *api.World) { w.Prog[0].Op = 17 }), 130},
		{worldWith(func(w *api.World) { w.Prog[15].B = 21; w.Links[0].To = 16 }), 130},
		{worldWith(func(w *api.World) { w.Self = -1 }), 1},
		{worldWith(func(w *api.World) { w.Self = 16 }), 1},
		{worldWith(func(w *api.World) { w.Links = slices.Repeat(w.Links[:1], 1025) }), 1},
		{worldWith(func(w *api.World) { w.Links[2].To = 16 }), 1},
		{worldWith(func(w *api.World) { w.Links[2].To = -1 }), 1},
		{worldWith(func(w *api.World) { w.Links[2].Look = 0 }), 1},
		{worldWith(func(w *api.World) { w.Links[2].Look = api.Never }), 1},
	} {
		for _, every := range []int{0, 1, 1025} {
			for _, s := range []api.State{{}, {Draws: -1}, {Sent: 1<<40 + 1}} {
				if l, e := New(c.w, s, every); l != nil || e != c.want {
					t.Errorf("world %d, every %d, %v: %v, %d, want %d", i, every, s, l, e, c.want)
				}
			}
		}
	}
}

// P10.1: worlds at the ends of what they may be.
func TestNewOfWorldsThatMayBe(t *testing.T) {
	for _, w := range []api.World{
		{},
		{Prog: []api.Instr{}, Links: []api.Link{}},
		worldWith(func(w *api.World) { w.Prog = make([]api.Instr, 256) }),
		worldWith(func(w *api.World) { w.Self = 0 }),
		worldWith(func(w *api.World) { w.Self = 15 }),
		worldWith(func(w *api.World) { w.Links = slices.Repeat(w.Links[:1], 1024) }),
		worldWith(func(w *api.World) { w.Links[0].To, w.Links[0].Look = 0, api.MaxTime }),
	} {
		b := newBoth(t, w, api.State{}, 3)
		b.doAll(at(10, 0), at(20, 0))
		b.check()
	}
}

// P10.1: how many draws and events sent may be at the beginning; there things go on as they do elsewhere.
func TestNewDrawsAndSent(t *testing.T) {
	for _, c := range []struct {
		n    int
		want api.Errno
	}{
		{math.MinInt, 1}, {-1, 1}, {0, 0}, {1, 0}, {1<<40 - 1, 0}, {1 << 40, 0}, {1<<40 + 1, 1}, {1 << 50, 1}, {math.MaxInt, 1},
	} {
		for _, s := range []api.State{{Draws: c.n}, {Sent: c.n}, {Draws: c.n, Sent: c.n}} {
			l, e := New(world(), s, 1)
			if e != c.want || (l != nil) != (c.want == 0) {
				t.Errorf("New with %v: %v, %d, want %d", s, l, e, c.want)
			}
			if c.want == 0 {
				b := newBoth(t, world(), s, 2)
				b.doAll(tens(9)...)
				b.check()
				b.back(at(20, 0))
				b.check()
			}
		}
	}
}

// P10.1: any registers may be at the beginning, and the base has them.
func TestNewRegisters(t *testing.T) {
	s := api.State{Regs: [8]int64{math.MinInt64, -1, 0, 1, 2, 3, 4, math.MaxInt64}, Draws: 3, Sent: 5}
	b := newBoth(t, world(), s, 4)
	if b.log.State() != s {
		t.Errorf("State: %v, want %v", b.log.State(), s)
	}
	b.doAll(tens(6)...)
	b.back(at(0, 0))
	if b.log.State() != s {
		t.Errorf("State behind the way back: %v, want %v", b.log.State(), s)
	}
	b.check()
}

// everies are numbers of every, with what is answered of them.
func everies() map[int]api.Errno {
	return map[int]api.Errno{
		math.MinInt: 1, -1024: 1, -1: 1, 0: 1, 1: 0, 2: 0, 1023: 0, 1024: 0, 1025: 1, 1 << 32: 1, 1<<32 + 1: 1, math.MaxInt: 1,
	}
}

// P10.1, P10.3: every and the n of Every are 1 to MaxSlots; what is refused changes nothing.
func TestEveryNumber(t *testing.T) {
	for n, want := range everies() {
		l, e := New(world(), api.State{}, n)
		if e != want || (l != nil) != (want == 0) {
			t.Errorf("New with every %d: %v, %d, want %d", n, l, e, want)
		}
		b := bothOf(t, 3, tens(5)...)
		if e := b.log.Every(n); e != want {
			t.Errorf("Every(%d): %d, want %d", n, e, want)
		}
		if want == 0 {
			b.plain.every = n
		}
		b.check()
		b.doAll(at(60, 1), at(70, 1), at(80, 1), at(90, 1))
		b.check()
	}
}

// changed is m with one thing about it changed.
func changed(m api.Message, change func(m *api.Message)) api.Message {
	change(&m)
	return m
}

// refused are events that may not be done, whatever the log.
func refused() []api.Message {
	m := at(1000, 1)
	return []api.Message{
		changed(m, func(m *api.Message) { m.Key.Time = -1 }),
		changed(m, func(m *api.Message) { m.Key.Time = math.MinInt64 }),
		changed(m, func(m *api.Message) { m.Key.Time = api.Never }),
		changed(m, func(m *api.Message) { m.Key.Time = math.MaxInt64 }),
		changed(m, func(m *api.Message) { m.Key.From = -2 }),
		changed(m, func(m *api.Message) { m.Key.From = 16 }),
		changed(m, func(m *api.Message) { m.Key.Seq = -1 }),
		changed(m, func(m *api.Message) { m.Key.Seq = math.MinInt }),
		changed(m, func(m *api.Message) { m.Uid = -1 }),
		changed(m, func(m *api.Message) { m.Uid = math.MinInt }),
		changed(m, func(m *api.Message) { m.To = -1 }),
		changed(m, func(m *api.Message) { m.To = 16 }),
		changed(m, func(m *api.Message) { m.Anti = true }),
	}
}

// refuses looks whether Do and Try of m tell that error and nothing else, and change nothing.
func (b both) refuses(m api.Message, uid int, want api.Errno) {
	b.t.Helper()
	for name, call := range map[string]func(api.Message, int, []api.Message) (api.Entry, api.Errno){"Do": b.log.Do, "Try": b.log.Try} {
		for _, kept := range [][]api.Message{nil, {m}} {
			if x, e := call(m, uid, kept); e != want || !sameEntry(x, api.Entry{}) || x.Sent != nil {
				b.t.Errorf("%s(%v, %d): %v, %d, want %d", name, m, uid, x, e, want)
			}
		}
	}
	b.check()
}

// P10.1: a message that event.Check refuses, and an anti-message, is not done.
func TestRefusedMessages(t *testing.T) {
	for _, b := range []both{bothOf(t, 2), bothOf(t, 2, tens(3)...)} {
		for _, m := range refused() {
			b.refuses(m, 5, 1)
		}
	}
}

// P10.1: messages at the ends of what they may be are done; To need not be the process itself.
func TestMessagesAtTheEnds(t *testing.T) {
	m := at(1000, 1)
	for _, m := range []api.Message{
		changed(m, func(m *api.Message) { m.Key.Time = 0 }),
		changed(m, func(m *api.Message) { m.Key.Time, m.Value = api.MaxTime, 0 }),
		changed(m, func(m *api.Message) { m.Key.From = -1 }),
		changed(m, func(m *api.Message) { m.Key.From = 15 }),
		changed(m, func(m *api.Message) { m.Key.Seq = 0 }),
		changed(m, func(m *api.Message) { m.Key.Seq = math.MaxInt }),
		changed(m, func(m *api.Message) { m.Uid = 0 }),
		changed(m, func(m *api.Message) { m.Uid = math.MaxInt }),
		changed(m, func(m *api.Message) { m.To = 0 }),
		changed(m, func(m *api.Message) { m.To = 15 }),
		changed(m, func(m *api.Message) { m.Value = math.MaxInt64 }),
	} {
		b := bothOf(t, 2)
		if x, e := b.do(m, 5, nil); e != api.OK || x.Event != m || x.Fault != api.OK {
			t.Errorf("Do(%v): %v, %d", m, x, e)
		}
		b.check()
	}
}

// P10.1: a uid is 0 to 2^40; what is sent at its end has the numbers behind that.
func TestUid(t *testing.T) {
	for uid, want := range map[int]api.Errno{math.MinInt: 1, -1: 1, 0: 0, 1: 0, 1 << 40: 0, 1<<40 + 1: 1, 1 << 41: 1, math.MaxInt: 1} {
		b := bothOf(t, 2, at(10, 1))
		m := at(20, 3)
		if want != 0 {
			b.refuses(m, uid, want)
			continue
		}
		for _, call := range []func(api.Message, int, []api.Message) (api.Entry, api.Errno){b.try, b.do} {
			x, e := call(m, uid, nil)
			if e != 0 || len(x.Sent) != 3 || x.Sent[0].Uid != uid || x.Sent[1].Uid != uid+1 || x.Sent[2].Uid != uid+2 {
				t.Errorf("uid %d: %v, %d", uid, x, e)
			}
		}
		b.check()
	}
}

// P10.1: the last entry's event must be ahead of what is done, by the order of messages.
func TestOrder(t *testing.T) {
	last := api.Message{Key: api.Key{Time: 10, From: 3, Seq: 5}, To: 4, Value: 2, Uid: 7}
	place := func(time int64, from, seq, uid int) api.Message {
		return api.Message{Key: api.Key{Time: time, From: from, Seq: seq}, To: 4, Value: 1, Uid: uid}
	}
	for _, m := range []api.Message{
		last, place(10, 3, 5, 7), changed(last, func(m *api.Message) { m.To = 3 }),
		place(9, 9, 9, 9), place(10, 2, 9, 9), place(10, api.Outside, 9, 9), place(10, 3, 4, 9), place(10, 3, 5, 6), place(0, 0, 0, 0),
	} {
		b := bothOf(t, 4, at(5, 1), last)
		b.refuses(m, 0, 1)
	}
	for _, m := range []api.Message{
		place(11, 0, 0, 0), place(10, 4, 0, 0), place(10, 3, 6, 0), place(10, 3, 5, 8), place(api.MaxTime-2, api.Outside, 0, 0),
	} {
		b := bothOf(t, 4, at(5, 1), last)
		if _, e := b.do(m, 0, nil); e != api.OK {
			t.Errorf("Do(%v) behind %v: %d", m, last, e)
		}
		b.check()
	}
}

// P10.1: behind a Back, and behind a Drop of all, only what is left counts.
func TestOrderOfWhatIsLeft(t *testing.T) {
	b := bothOf(t, 4, tens(4)...)
	b.back(at(30, 3))
	b.refuses(at(20, 2), 0, 1)
	b.doAll(at(25, 1))
	b.drop(26)
	b.doAll(at(1, 1))
	b.check()
}

// P10.1: with a fault the event is an entry that sent nothing, the state is as it was, and the log is stuck.
func TestFaults(t *testing.T) {
	late := at(api.MaxTime-1, 4)
	for _, c := range []struct {
		m    api.Message
		want api.Errno
	}{
		{faulty(50), 50},
		{late, 10},
	} {
		for _, every := range []int{1, 2, 3, 100} {
			b := bothOf(t, every, tens(4)...)
			state := b.log.State()
			if x, e := b.try(c.m, 3, nil); e != api.OK || x.Fault != c.want || len(x.Sent) != 0 || b.log.Stuck() {
				t.Errorf("Try: %v, %d", x, e)
			}
			if x, e := b.do(c.m, 3, nil); e != api.OK || x.Fault != c.want || x.Before != state || len(x.Sent) != 0 {
				t.Errorf("Do: %v, %d", x, e)
			}
			if !b.log.Stuck() || b.log.State() != state || b.log.Len() != 5 {
				t.Errorf("behind a fault: stuck %v, %d entries", b.log.Stuck(), b.log.Len())
			}
			b.check()
		}
	}
}

// P10.1: a stuck log refuses what else may be done; what may never be done it refuses with ErrArg.
func TestStuckRefuses(t *testing.T) {
	b := bothOf(t, 2, at(10, 1), faulty(20))
	b.refuses(at(30, 3), 0, 5)
	b.refuses(faulty(30), 1<<40, 5)
	for _, m := range refused() {
		b.refuses(m, 0, 1)
	}
	b.refuses(at(30, 3), -1, 1)
	b.refuses(at(30, 3), 1<<40+1, 1)
	b.refuses(faulty(20), 0, 1)
	b.refuses(at(15, 1), 0, 1)
}

// many are events of which there is room for just as many.
func many() []api.Message {
	var l []api.Message
	for i := range 16384 {
		l = append(l, at(int64(i/3), i))
	}
	return l
}

// P10.1: there are MaxQueue entries at most. One more is refused, behind what is wrong with it; when some are gone there is room again.
func TestFull(t *testing.T) {
	t.Parallel()
	for _, every := range []int{1, 7, 1024} {
		b := newBoth(t, world(), api.State{}, every)
		for i, m := range many() {
			if _, e := b.do(m, i, nil); e != api.OK {
				t.Fatalf("Do %d: %d", i, e)
			}
		}
		b.refuses(at(1<<20, 1), 0, 9)
		b.refuses(faulty(1<<20), 0, 9)
		b.refuses(at(0, 1), 0, 1)
		b.refuses(at(1<<20, 1), -1, 1)
		b.drop(1)
		b.doAll(at(1<<20, 1), at(1<<20, 2), at(1<<20, 3))
		b.refuses(at(1<<20, 4), 0, 9)
		b.back(at(1<<20, 3))
		b.doAll(faulty(1 << 21))
		b.refuses(at(1<<22, 4), 0, 5)
		b.refuses(at(1<<20, 4), 0, 1)
		if gone := b.back(at(0, 0)); len(gone) != 16384 {
			t.Errorf("Back of all: %d entries", len(gone))
		}
		b.check()
	}
}

// P10.3: Last and Find; of several of one sending the oldest is found.
func TestLastAndFind(t *testing.T) {
	for _, every := range []int{1, 2, 100} {
		b := bothOf(t, every)
		if m, there := b.log.Last(); there || m != (api.Message{}) {
			t.Errorf("Last of none: %v, %v", m, there)
		}
		if m, there := b.log.Find(2, 1); there || m != (api.Message{}) {
			t.Errorf("Find among none: %v, %v", m, there)
		}
		twice := changed(at(50, 2), func(m *api.Message) { m.Value, m.Key.Seq = 7, 9 })
		outside := changed(at(60, 2), func(m *api.Message) { m.Key.From = api.Outside })
		b.doAll(append(tens(4), twice, outside)...)
		if m, there := b.log.Last(); !there || m != outside {
			t.Errorf("Last: %v, %v", m, there)
		}
		for _, c := range []struct {
			from, uid int
			want      api.Message
		}{
			{2, 1, at(10, 1)}, {2, 2, at(20, 2)}, {2, 4, at(40, 4)}, {api.Outside, 2, outside},
		} {
			if m, there := b.log.Find(c.from, c.uid); !there || m != c.want {
				t.Errorf("Find(%d, %d): %v, %v, want %v", c.from, c.uid, m, there, c.want)
			}
		}
		for _, c := range [][2]int{{2, 0}, {2, 5}, {1, 2}, {3, 2}, {0, 2}, {api.Outside, 1}, {2, -2}, {2, 1<<32 + 2}, {math.MinInt, math.MinInt}, {math.MaxInt, math.MaxInt}} {
			if m, there := b.log.Find(c[0], c[1]); there || m != (api.Message{}) {
				t.Errorf("Find(%d, %d): %v, %v", c[0], c[1], m, there)
			}
		}
		b.drop(21)
		b.find(2, 1)
		if m, there := b.log.Find(2, 2); !there || m != twice {
			t.Errorf("Find of what is left: %v, %v", m, there)
		}
		b.back(twice)
		b.find(2, 2)
		b.find(api.Outside, 2)
		b.find(2, 4)
	}
}

// P10.4: of a nil log, and of one that no call made, nothing is told but ErrZero, whatever is asked for; none becomes one that a call made.
func TestLogsThatNoCallMade(t *testing.T) {
	for i, l := range []*Log{nil, {}} {
		for range 2 {
			for _, m := range append(refused(), api.Message{}, at(10, 1), faulty(10)) {
				for _, uid := range []int{math.MinInt, -1, 0, 1, 1 << 40, math.MaxInt} {
					if x, e := l.Do(m, uid, nil); e != 7 || !sameEntry(x, api.Entry{}) {
						t.Errorf("log %d: Do: %v, %d", i, x, e)
					}
					if x, e := l.Try(m, uid, []api.Message{m}); e != 7 || !sameEntry(x, api.Entry{}) {
						t.Errorf("log %d: Try: %v, %d", i, x, e)
					}
					if m, there := l.Find(uid, uid); there || m != (api.Message{}) {
						t.Errorf("log %d: Find: %v, %v", i, m, there)
					}
				}
				if x := l.Back(m); len(x) != 0 {
					t.Errorf("log %d: Back: %v", i, x)
				}
			}
			for _, time := range []int64{math.MinInt64, 0, 1, math.MaxInt64} {
				if x := l.Drop(time); len(x) != 0 {
					t.Errorf("log %d: Drop: %v", i, x)
				}
			}
			for n := range everies() {
				if e := l.Every(n); e != 7 {
					t.Errorf("log %d: Every(%d): %d", i, n, e)
				}
			}
			if m, there := l.Last(); there || m != (api.Message{}) {
				t.Errorf("log %d: Last: %v, %v", i, m, there)
			}
			if l.State() != (api.State{}) || len(l.All()) != 0 || l.Kept() != 0 || l.Len() != 0 || l.Stuck() {
				t.Errorf("log %d: %v, %v, %d, %d, %v", i, l.State(), l.All(), l.Kept(), l.Len(), l.Stuck())
			}
		}
	}
}
