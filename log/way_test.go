package log

import (
	"math"
	"slices"
	"testing"

	"isochron/api"
)

// counts are numbers of Every that these tests go through.
func counts() []int { return []int{1, 2, 3, 4, 5, 7, 12, 13, 1024} }

// wantKept fails unless so many states are kept.
func (b both) wantKept(n int) {
	b.t.Helper()
	if b.log.Kept() != n {
		b.t.Errorf("every %d, %d entries: Kept %d, want %d", b.plain.every, b.log.Len(), b.log.Kept(), n)
	}
	b.check()
}

// wantKeptOneByOne does events from that time on, and fails unless so many states are kept behind each.
func (b both) wantKeptOneByOne(time int64, wanted ...int) {
	b.t.Helper()
	for i, n := range wanted {
		b.doAll(at(time+int64(i), i))
		b.wantKept(n)
	}
}

// P10.1, P10.3: the base is kept, and behind it one state in so many as Every says.
func TestKeptBehindDo(t *testing.T) {
	for _, every := range counts() {
		b := bothOf(t, every)
		b.wantKept(1)
		for i, m := range tens(30) {
			b.doAll(m)
			b.wantKept(1 + i/every)
		}
	}
}

// P10.1: MaxSlots entries lie behind a kept state, and no more.
func TestKeptAtTheLimit(t *testing.T) {
	b := newBoth(t, world(), api.State{}, 1024)
	for i, m := range tens(2050) {
		b.do(m, i, nil)
		if want := 1 + i/1024; b.log.Kept() != want {
			t.Fatalf("%d entries: Kept %d, want %d", i+1, b.log.Kept(), want)
		}
	}
	b.check()
}

// P10.1: a fault's entry counts as any other does, and the state ahead of it may be kept.
func TestKeptAheadOfAFault(t *testing.T) {
	for n, want := range []int{1, 1, 1, 2, 2, 2, 3} {
		b := bothOf(t, 3, tens(n)...)
		b.doAll(faulty(500))
		b.wantKept(want)
	}
}

// P10.2: with an entry the state that is kept ahead of it is gone, but for the base; what is done anew keeps states where they were kept.
func TestKeptBehindBack(t *testing.T) {
	for _, every := range counts() {
		for left := range 14 {
			b := bothOf(t, every, tens(13)...)
			b.back(at(int64(10*left+1), 0))
			b.wantKept(1 + max(0, left-1)/every)
			if b.log.Len() != left {
				t.Errorf("Len: %d, want %d", b.log.Len(), left)
			}
			b.doAll(tens(13)[left:]...)
			b.wantKept(1 + 12/every)
		}
	}
}

// P10.2: with an entry at the beginning its kept state is gone; the base is the state ahead of what is left, and counts once if it was kept.
func TestKeptBehindDrop(t *testing.T) {
	for _, every := range counts() {
		for n := range 14 {
			b := bothOf(t, every, tens(13)...)
			b.drop(int64(10*n + 1))
			want := 1
			for i := n + 1; i < 13; i++ {
				if i%every == 0 {
					want++
				}
			}
			b.wantKept(want)
			if b.log.Len() != 13-n {
				t.Errorf("Len: %d, want %d", b.log.Len(), 13-n)
			}
			b.doAll(at(200, 1), at(210, 2), at(220, 3), at(230, 4))
			b.check()
		}
	}
}

// P10.1, P10.2: behind a Drop entries are counted from the new base on.
func TestKeptFromTheNewBaseOn(t *testing.T) {
	b := bothOf(t, 4, tens(3)...)
	b.drop(30)
	b.wantKept(1)
	b.wantKeptOneByOne(100, 1, 1, 1, 2)
	b.drop(1000)
	b.wantKept(1)
	b.wantKeptOneByOne(2000, 1, 1, 1, 1, 2)
}

// P10.3: another Every counts from now on: nothing that is kept goes, nothing is kept behindhand; if there are more entries than it says the next one has a kept state.
func TestKeptBehindEvery(t *testing.T) {
	b := bothOf(t, 10, tens(7)...)
	b.wantKept(1)
	b.every(3)
	b.wantKept(1)
	b.wantKeptOneByOne(100, 2, 2, 2, 3)
	b.every(1)
	b.wantKept(3)
	b.doAll(at(200, 1), at(201, 1))
	b.wantKept(5)
	b.every(4)
	b.wantKept(5)
	b.wantKeptOneByOne(300, 5, 5, 5, 6)
	b.back(at(301, 1))
	b.every(2)
	b.wantKept(5)
	b.doAll(at(400, 1), at(401, 1))
	b.wantKept(6)
}

// P10.2: Back of an event ahead of all, between two, that is there, behind all, and of such that may never be done: what is not ahead of it is gone, the newest first.
func TestBack(t *testing.T) {
	events := tens(6)
	anti := changed(at(30, 3), func(m *api.Message) { m.Anti = true })
	for _, every := range counts() {
		for i, c := range []struct {
			m    api.Message
			left int
		}{
			{at(0, 0), 0}, {api.Message{Key: api.Key{Time: math.MinInt64, From: math.MinInt, Seq: math.MinInt}, Uid: math.MinInt}, 0},
			{at(10, 1), 0}, {at(10, 0), 0}, {at(10, 2), 1}, {at(11, 0), 1}, {at(29, 9), 2},
			{at(30, 2), 2}, {at(30, 3), 2}, {anti, 2}, {at(30, 4), 3},
			{changed(at(30, 0), func(m *api.Message) { m.Key.Seq++ }), 3},
			{changed(at(30, 9), func(m *api.Message) { m.Key.Seq-- }), 2},
			{changed(at(30, 0), func(m *api.Message) { m.Key.From++ }), 3},
			{changed(at(30, 9), func(m *api.Message) { m.Key.From-- }), 2},
			{at(60, 6), 5}, {at(60, 7), 6}, {at(61, 0), 6}, {at(api.Never, 0), 6}, {at(math.MaxInt64, math.MaxInt), 6},
		} {
			b := bothOf(t, every, events...)
			all := b.log.All()
			end := b.log.State()
			gone := b.back(c.m)
			if !sameEntries(gone, reversed(all[c.left:])) {
				t.Errorf("every %d, Back %d: %v", every, i, gone)
			}
			if c.left < 6 {
				end = all[c.left].Before
			}
			if b.log.State() != end || b.log.Len() != c.left {
				t.Errorf("every %d, Back %d: %d left, State %v, want %d, %v", every, i, b.log.Len(), b.log.State(), c.left, end)
			}
			b.check()
			if again := b.back(c.m); len(again) != 0 {
				t.Errorf("every %d, Back %d, once more: %v", every, i, again)
			}
			b.check()
		}
	}
}

// P10.2: a log is stuck until the entry with the fault is taken back.
func TestBackOfAStuckLog(t *testing.T) {
	for _, every := range counts() {
		b := bothOf(t, every, append(tens(4), faulty(50))...)
		state := b.log.State()
		for _, m := range []api.Message{at(50, 2), at(51, 0), at(api.Never, 0)} {
			if gone := b.back(m); len(gone) != 0 || !b.log.Stuck() {
				t.Errorf("every %d: Back: %v, stuck %v", every, gone, b.log.Stuck())
			}
			b.refuses(at(60, 6), 0, 5)
		}
		gone := b.back(faulty(50))
		if len(gone) != 1 || gone[0].Fault != api.ErrLook || gone[0].Event != faulty(50) || b.log.Stuck() || b.log.State() != state {
			t.Errorf("every %d: Back of the fault: %v, stuck %v", every, gone, b.log.Stuck())
		}
		b.check()
		b.doAll(at(50, 5), faulty(60))
		if gone = b.back(at(25, 0)); len(gone) != 4 || gone[0].Fault != api.ErrLook || b.log.Stuck() {
			t.Errorf("every %d: Back of the fault and others: %v, stuck %v", every, gone, b.log.Stuck())
		}
		b.doAll(at(25, 1))
		b.check()
	}
}

// P10.2: Drop at a time below all, at the time of one, above all: what is earlier is gone, the oldest first; the state stays.
func TestDrop(t *testing.T) {
	events := append(tens(4), at(40, 8), at(40, 9), at(50, 5))
	for _, every := range counts() {
		for time, n := range map[int64]int{
			math.MinInt64: 0, -1: 0, 0: 0, 9: 0, 10: 0, 11: 1, 20: 1, 21: 2, 30: 2, 39: 3, 40: 3, 41: 6, 50: 6, 51: 7, api.MaxTime: 7, api.Never: 7, math.MaxInt64: 7,
		} {
			b := bothOf(t, every, events...)
			all, state := b.log.All(), b.log.State()
			if gone := b.drop(time); !sameEntries(gone, all[:n]) {
				t.Errorf("every %d: Drop(%d): %v", every, time, gone)
			}
			if !sameEntries(b.log.All(), all[n:]) || b.log.State() != state || b.log.Len() != 7-n {
				t.Errorf("every %d: behind Drop(%d): %v", every, time, b.log.All())
			}
			b.check()
			if again := b.drop(time); len(again) != 0 {
				t.Errorf("every %d: Drop(%d) once more: %v", every, time, again)
			}
			b.check()
			b.back(at(0, 0))
			if n < 7 {
				state = all[n].Before
			}
			if b.log.State() != state {
				t.Errorf("every %d: the base behind Drop(%d): %v, want %v", every, time, b.log.State(), state)
			}
			b.check()
		}
	}
}

// P10.2: a stuck log stays stuck when entries are dropped, for good when the one with the fault is among them.
func TestDropOfAStuckLog(t *testing.T) {
	for _, every := range counts() {
		b := bothOf(t, every, append(tens(4), faulty(50))...)
		b.drop(35)
		if !b.log.Stuck() || b.log.Len() != 2 {
			t.Errorf("every %d: stuck %v, %d entries", every, b.log.Stuck(), b.log.Len())
		}
		b.refuses(at(60, 6), 0, 5)
		if gone := b.drop(51); len(gone) != 2 || gone[1].Fault != api.ErrLook || !b.log.Stuck() {
			t.Errorf("every %d: Drop of the fault: %v, stuck %v", every, gone, b.log.Stuck())
		}
		b.refuses(at(60, 6), 0, 5)
		b.back(at(0, 0))
		if !b.log.Stuck() {
			t.Errorf("every %d: not stuck behind a Back of nothing", every)
		}
		b.refuses(at(60, 6), 0, 5)
	}
	b := bothOf(t, 2, append(tens(4), faulty(50))...)
	b.drop(35)
	if b.back(faulty(50)); b.log.Stuck() {
		t.Error("stuck behind the Back of the fault")
	}
	b.doAll(at(50, 5))
	b.check()
}

// again does what Back took away once more, in order, with what it sent then as kept, and looks whether all is as it was.
func (b both) again(gone []api.Entry, uid int) {
	b.t.Helper()
	for _, x := range reversed(gone) {
		y, e := b.do(x.Event, uid, x.Sent)
		if e != api.OK || !sameEntry(x, y) {
			b.t.Fatalf("once more: %v, %d, want %v", y, e, x)
		}
	}
}

// P10.5: what Back takes away, done again in order, leads to the same entries and the same state, whatever is kept.
func TestOnceMore(t *testing.T) {
	events := append(tens(40), faulty(410))
	for _, every := range counts() {
		for place := range len(events) {
			b := newBoth(t, world(), api.State{Draws: 5}, every)
			for i, m := range events {
				b.do(m, 1000+100*i, nil)
			}
			b.drop(int64(place * 7))
			all, state := b.log.All(), b.log.State()
			for _, n := range []int{every, 1, 3, 1024} {
				b.every(n)
				b.again(b.back(events[place]), 5)
				if !sameEntries(b.log.All(), all) || b.log.State() != state || !b.log.Stuck() {
					t.Fatalf("every %d, %d, from %d on: another log", every, n, place)
				}
			}
			b.check()
		}
	}
}

// P10.5: with the Uids that were given then, and nothing kept, the same comes of it.
func TestOnceMoreByUid(t *testing.T) {
	for _, every := range counts() {
		b := bothOf(t, every, tens(20)...)
		want := b.log.All()
		gone := b.back(at(50, 5))
		for i, x := range reversed(gone) {
			if y, e := b.do(x.Event, 100*(i+4), nil); e != api.OK || !sameEntry(x, y) {
				t.Errorf("once more: %v, %d, want %v", y, e, x)
			}
		}
		if !sameEntries(b.log.All(), want) {
			t.Error("another log")
		}
	}
}

// P4: the lists that are handed in may change behind a call, and stay as they are in it.
func TestWhatIsHandedIn(t *testing.T) {
	w := world()
	l, e := New(w, api.State{}, 3)
	if e != api.OK {
		t.Fatalf("New: %d", e)
	}
	if same := world(); !slices.Equal(w.Prog, same.Prog) || !slices.Equal(w.Links, same.Links) {
		t.Error("New changed the world")
	}
	clear(w.Prog)
	clear(w.Links)
	b := both{t: t, log: l, plain: newPlain(world(), api.State{}, 3)}
	b.check()
	b.doAll(tens(5)...)
	x, _ := b.try(at(60, 3), 1, nil)
	kept := []api.Message{named(x.Sent[1], 70), at(9, 9), named(x.Sent[0], 80)}
	before := slices.Clone(kept)
	b.try(at(60, 3), 1, kept)
	b.do(at(60, 3), 1, kept)
	if !slices.Equal(kept, before) {
		t.Errorf("kept: %v, want %v", kept, before)
	}
	clear(kept)
	b.check()
	b.doAll(tens(9)[6:]...)
	b.check()
}

// scribble writes over all that lists hold, and over the room behind them.
func scribble(l []api.Entry) {
	for i := range l {
		sent := l[i].Sent[:cap(l[i].Sent)]
		for j := range sent {
			sent[j] = at(-5, 12345)
		}
	}
	l = l[:cap(l)]
	for i := range l {
		l[i] = api.Entry{Event: at(-6, 6), Fault: 3}
	}
}

// P4: what becomes of lists that were handed out changes nothing in the log, nor in other lists.
func TestWhatIsHandedOut(t *testing.T) {
	for _, every := range counts() {
		b := bothOf(t, every, tens(12)...)
		x, _ := b.try(at(130, 8), 1, nil)
		y, _ := b.do(at(130, 8), 1, nil)
		one, two := b.log.All(), b.log.All()
		want := copied(one)
		scribble([]api.Entry{x})
		b.check()
		scribble([]api.Entry{y})
		b.check()
		scribble(one)
		b.check()
		if !sameEntries(two, want) {
			t.Errorf("every %d: one list changed with another", every)
		}
		back, drop := b.back(at(80, 8)), b.drop(35)
		scribble(two)
		b.check()
		if !sameEntries(back, reversed(want[7:])) || !sameEntries(drop, want[:3]) {
			t.Errorf("every %d: what was taken away changed with another list", every)
		}
		scribble(back)
		scribble(drop)
		b.check()
		b.doAll(tens(12)[7:]...)
		b.check()
	}
}

// P4: a list stays as it is, whatever is done with the log behind it; of one answer no two lists share memory.
func TestListsStay(t *testing.T) {
	for _, every := range counts() {
		b := bothOf(t, every, tens(12)...)
		lists := [][]api.Entry{b.log.All()}
		lists = append(lists, b.back(at(60, 6)))
		b.doAll(tens(20)[7:]...)
		lists = append(lists, b.drop(40), b.log.All())
		x, _ := b.do(at(900, 8), 3, nil)
		lists = append(lists, []api.Entry{x})
		var want [][]api.Entry
		for _, l := range lists {
			want = append(want, copied(l))
		}
		b.back(at(100, 10))
		b.doAll(at(111, 5), at(112, 6), at(113, 7))
		b.drop(500)
		b.doAll(tens(8)...)
		for i, l := range lists {
			if !sameEntries(l, want[i]) {
				t.Errorf("every %d: the list %d changed", every, i)
			}
		}
		for i, l := range lists {
			for j := range l {
				own := slices.Clone(l[j].Sent)
				scribble([]api.Entry{{Sent: l[j].Sent}})
				copy(l[j].Sent, own)
				if !sameEntries(l, want[i]) {
					t.Errorf("every %d: what was sent of the list %d lies in one memory", every, i)
				}
			}
		}
	}
}

// The memory that a log goes on with holds nothing of what was dropped. (What was taken back checkShape looks for.)
func TestWhatIsDroppedIsLetGo(t *testing.T) {
	for _, every := range counts() {
		for n := range 30 {
			b := bothOf(t, every, tens(30)...)
			was := slices.Clone(b.log.stretches)
			memory := b.log.stretches
			b.drop(int64(10*n + 1))
			whole := len(memory) - len(b.log.stretches)
			for _, s := range memory[:whole] {
				if s.steps != nil || s.kept != (api.State{}) {
					t.Errorf("every %d, %d dropped: a stretch is there: %v", every, n, s)
				}
			}
			for _, x := range was[whole].steps {
				if x.sent != nil && x.event.Key.Time <= int64(10*n) {
					t.Errorf("every %d, %d dropped: a step is there: %v", every, n, x)
				}
			}
		}
	}
}
