package log

import (
	"testing"

	"isochron/api"
)

// world is one whose process remembers what it did and in which order, draws, and sends as many messages as the event's value, divided by nine, leaves; a value below 0 is a fault.
func world() api.World {
	return api.World{
		Prog: []api.Instr{
			{Op: api.OpValue, A: 8},
			{Op: api.OpSet, A: 9, B: 1000},
			{Op: api.OpDraw, A: 10, B: 9},
			{Op: api.OpMul, A: 0, B: 0, C: 9},
			{Op: api.OpAdd, A: 0, B: 0, C: 8},
			{Op: api.OpAdd, A: 1, B: 1, C: 10},
			{Op: api.OpTime, A: 11},
			{Op: api.OpAdd, A: 7, B: 7, C: 11},
			{Op: api.OpLess, A: 12, B: 8, C: 13},
			{Op: api.OpZero, A: 12, B: 12},
			{Op: api.OpSend, A: 13, B: 13, C: 13},
			{Op: api.OpHalt},
			{Op: api.OpSet, A: 9, B: 9},
			{Op: api.OpMod, A: 14, B: 8, C: 9},
			{Op: api.OpSet, A: 15, B: 1},
			{Op: api.OpZero, A: 14, B: 20},
			{Op: api.OpSub, A: 14, B: 14, C: 15},
			{Op: api.OpAdd, A: 9, B: 14, C: 15},
			{Op: api.OpSend, A: 14, B: 9, C: 0},
			{Op: api.OpJump, A: 15},
		},
		Self:  4,
		Links: []api.Link{{From: 4, To: 1, Look: 1}, {From: 4, To: 4, Look: 1}, {From: 4, To: 15, Look: 1}},
		Seed:  77,
	}
}

// at is an event at that time; its value sends i modulo nine messages, its Uid is i.
func at(time int64, i int) api.Message {
	return api.Message{Key: api.Key{Time: time, From: 2, Seq: 3}, To: 4, Value: int64(i), Uid: i}
}

// faulty is an event that ends with ErrLook.
func faulty(time int64) api.Message {
	m := at(time, 1)
	m.Value = -1
	return m
}

// tens are n events at 10, 20 and so on.
func tens(n int) []api.Message {
	var l []api.Message
	for i := 1; i <= n; i++ {
		l = append(l, at(int64(10*i), i))
	}
	return l
}

// both is a log and its second reading, which are called alike.
type both struct {
	t     *testing.T
	log   *Log
	plain *plain
}

func newBoth(t *testing.T, w api.World, s api.State, every int) both {
	t.Helper()
	l, e := New(w, s, every)
	if l == nil || e != api.OK {
		t.Fatalf("New with every %d: %v, %d", every, l, e)
	}
	b := both{t: t, log: l, plain: newPlain(w, s, every)}
	b.check()
	return b
}

// bothOf is a log of the world of these tests, in which l was done one by one.
func bothOf(t *testing.T, every int, l ...api.Message) both {
	t.Helper()
	b := newBoth(t, world(), api.State{}, every)
	b.doAll(l...)
	return b
}

func (b both) doAll(l ...api.Message) {
	b.t.Helper()
	for i, m := range l {
		if _, e := b.do(m, 100*i, nil); e != api.OK {
			b.t.Fatalf("Do(%v): %d", m, e)
		}
	}
}

// told is what Do or Try answers, if the second reading answers the same.
func (b both) told(x api.Entry, e api.Errno, want api.Entry, f api.Errno) (api.Entry, api.Errno) {
	b.t.Helper()
	if e != f || !sameEntry(x, want) {
		b.t.Fatalf("Do or Try: %v, %d, want %v, %d", x, e, want, f)
	}
	return x, e
}

func (b both) do(m api.Message, uid int, kept []api.Message) (api.Entry, api.Errno) {
	b.t.Helper()
	x, e := b.log.Do(m, uid, kept)
	want, f := b.plain.do(m, uid, kept)
	return b.told(x, e, want, f)
}

func (b both) try(m api.Message, uid int, kept []api.Message) (api.Entry, api.Errno) {
	b.t.Helper()
	x, e := b.log.Try(m, uid, kept)
	want, f := b.plain.try(m, uid, kept)
	return b.told(x, e, want, f)
}

func (b both) back(m api.Message) []api.Entry {
	b.t.Helper()
	got, want := b.log.Back(m), b.plain.back(m)
	if !sameEntries(got, want) {
		b.t.Fatalf("Back(%v): %v, want %v", m, got, want)
	}
	return got
}

func (b both) drop(t int64) []api.Entry {
	b.t.Helper()
	got, want := b.log.Drop(t), b.plain.drop(t)
	if !sameEntries(got, want) {
		b.t.Fatalf("Drop(%d): %v, want %v", t, got, want)
	}
	return got
}

func (b both) every(n int) {
	b.t.Helper()
	if e := b.log.Every(n); e != api.OK {
		b.t.Fatalf("Every(%d): %d", n, e)
	}
	b.plain.every = n
}

func (b both) find(from, uid int) {
	b.t.Helper()
	m, there := b.log.Find(from, uid)
	if want, is := b.plain.find(from, uid); m != want || there != is {
		b.t.Fatalf("Find(%d, %d): %v, %v, want %v, %v", from, uid, m, there, want, is)
	}
}

// checkFew holds what the log tells of itself, but for its entries, against the second reading.
func (b both) checkFew() {
	b.t.Helper()
	if l, p := b.log, b.plain; l.Len() != len(p.l) || l.Kept() != p.howMany() || l.Stuck() != p.stuck || l.State() != p.state {
		b.t.Fatalf("Len %d, Kept %d, Stuck %v, State %v; want %d, %d, %v, %v", l.Len(), l.Kept(), l.Stuck(), l.State(), len(p.l), p.howMany(), p.stuck, p.state)
	}
	m, there := b.log.Last()
	if want, is := b.plain.last(); m != want || there != is {
		b.t.Fatalf("Last: %v, %v, want %v, %v", m, there, want, is)
	}
}

// check holds all that the log tells of itself against the second reading, twice, as telling changes nothing.
func (b both) check() {
	b.t.Helper()
	for range 2 {
		b.checkFew()
		if got := b.log.All(); !sameEntries(got, b.plain.l) {
			b.t.Fatalf("All: %v, want %v", got, b.plain.l)
		}
	}
	b.checkShape()
}

// checkShape looks whether the log's stretches are what they are meant to be: none is empty but a lone one, none has more steps than may lie behind a kept state, and nothing that is gone lies in the room behind any of them.
func (b both) checkShape() {
	b.t.Helper()
	length, all := 0, b.log.stretches
	for i, s := range all {
		if len(s.steps) > api.MaxSlots || len(s.steps) == 0 && len(all) > 1 {
			b.t.Fatalf("the stretch %d of %d: %d steps", i, len(all), len(s.steps))
		}
		for _, x := range s.steps[len(s.steps):cap(s.steps)] {
			if x.event != (api.Message{}) || x.sent != nil {
				b.t.Fatalf("behind the stretch %d: %v", i, x)
			}
		}
		length += len(s.steps)
	}
	for _, s := range all[len(all):cap(all)] {
		if s.steps != nil || s.kept != (api.State{}) {
			b.t.Fatalf("behind the stretches: %v", s)
		}
	}
	if length != b.log.length {
		b.t.Fatalf("%d steps, the length %d", length, b.log.length)
	}
}
