package log

import (
	"math"
	"testing"

	"isochron/api"
)

// named is m with that Uid.
func named(m api.Message, uid int) api.Message {
	m.Uid = uid
	return m
}

// uids are the Uids of what is sent, of which there are three.
func uids(t *testing.T, x api.Entry) [3]int {
	t.Helper()
	if len(x.Sent) != 3 {
		t.Fatalf("sent: %v", x.Sent)
	}
	return [3]int{x.Sent[0].Uid, x.Sent[1].Uid, x.Sent[2].Uid}
}

// P10.1: a message that is sent with the Key, To and Value of one of kept has that one's Uid; the others have uid and what follows, in order.
func TestNames(t *testing.T) {
	sender := at(30, 3)
	x, _ := bothOf(t, 2, tens(2)...).try(sender, 0, nil)
	a, b, c := named(x.Sent[0], 900), named(x.Sent[1], 700), named(x.Sent[2], 800)
	anti, other := a, at(99, 5)
	anti.Anti = true
	for i, r := range []struct {
		kept []api.Message
		want [3]int
	}{
		{nil, [3]int{40, 41, 42}},
		{[]api.Message{}, [3]int{40, 41, 42}},
		{[]api.Message{a}, [3]int{900, 40, 41}},
		{[]api.Message{b}, [3]int{40, 700, 41}},
		{[]api.Message{c}, [3]int{40, 41, 800}},
		{[]api.Message{a, b, c}, [3]int{900, 700, 800}},
		{[]api.Message{c, a, b}, [3]int{900, 700, 800}},
		{[]api.Message{c, a}, [3]int{900, 40, 800}},
		{[]api.Message{a, named(a, 901)}, [3]int{900, 40, 41}},
		{[]api.Message{named(a, 901), a, named(a, 902)}, [3]int{901, 40, 41}},
		{[]api.Message{named(c, 1), b, named(b, 2), c, a, b, c}, [3]int{900, 700, 1}},
		{[]api.Message{other, other, a, other, b, other, c, other}, [3]int{900, 700, 800}},
		{[]api.Message{other, other, other, other, other}, [3]int{40, 41, 42}},
		{[]api.Message{named(b, 40)}, [3]int{40, 40, 41}},
		{[]api.Message{named(a, math.MinInt), named(b, -1), named(c, math.MaxInt)}, [3]int{math.MinInt, -1, math.MaxInt}},
		{[]api.Message{anti}, [3]int{900, 40, 41}},
	} {
		l := bothOf(t, 2, tens(2)...)
		for _, call := range []func(api.Message, int, []api.Message) (api.Entry, api.Errno){l.try, l.do} {
			x, e := call(sender, 40, r.kept)
			if got := uids(t, x); e != api.OK || got != r.want {
				t.Errorf("names %d: %v, %d, want %v", i, got, e, r.want)
			}
			for _, m := range x.Sent {
				if m.Anti {
					t.Errorf("names %d: an anti-message: %v", i, m)
				}
			}
		}
		l.check()
	}
}

// P10.1: one that differs in any part of its Key, in To or in Value gives no name.
func TestNamesOfOthers(t *testing.T) {
	sender := at(30, 3)
	x, _ := bothOf(t, 2, tens(2)...).try(sender, 0, nil)
	for i, change := range []func(m *api.Message){
		func(m *api.Message) { m.Key.Time-- },
		func(m *api.Message) { m.Key.From-- },
		func(m *api.Message) { m.Key.Seq-- },
		func(m *api.Message) { m.Key.Seq += 3 },
		func(m *api.Message) { m.To++ },
		func(m *api.Message) { m.Value++ },
		func(m *api.Message) { m.Value = 0 },
	} {
		for place := range 3 {
			l := bothOf(t, 2, tens(2)...)
			kept := named(changed(x.Sent[place], change), 900)
			x, _ := l.do(sender, 40, []api.Message{kept, kept})
			if got := uids(t, x); got != [3]int{40, 41, 42} {
				t.Errorf("change %d of %d: %v", i, place, got)
			}
		}
	}
}

// P10.1: what was sent is as vm.Sends tells it, from the state ahead.
func TestSent(t *testing.T) {
	l := bothOf(t, 2, at(10, 2))
	x, _ := l.do(at(30, 3), 5, nil)
	value := int64(2003)
	for i, want := range []api.Message{
		{Key: api.Key{Time: 33, From: 4, Seq: 2}, To: 15, Value: value, Uid: 5},
		{Key: api.Key{Time: 32, From: 4, Seq: 3}, To: 4, Value: value, Uid: 6},
		{Key: api.Key{Time: 31, From: 4, Seq: 4}, To: 1, Value: value, Uid: 7},
	} {
		if x.Sent[i] != want {
			t.Errorf("sent %d: %v, want %v", i, x.Sent[i], want)
		}
	}
	if s := l.log.State(); s.Sent != 5 || s.Draws != 2 || s.Regs[0] != value || s.Regs[7] != 40 {
		t.Errorf("State: %v", s)
	}
}

// P10.1: names count neither for a fault nor for an event that sends nothing.
func TestNamesOfNothing(t *testing.T) {
	l := bothOf(t, 2, tens(2)...)
	kept := []api.Message{at(31, 1), {}}
	if x, e := l.do(at(30, 9), 40, kept); e != api.OK || len(x.Sent) != 0 {
		t.Errorf("an event that sends nothing: %v, %d", x, e)
	}
	if x, e := l.do(faulty(40), 40, kept); e != api.OK || len(x.Sent) != 0 || x.Fault != api.ErrLook {
		t.Errorf("a fault: %v, %d", x, e)
	}
	l.check()
}

// P10.1: Try answers what Do then does, and does nothing, however often.
func TestTry(t *testing.T) {
	for _, every := range []int{1, 2, 3} {
		l := bothOf(t, every)
		for i, m := range append(tens(12), faulty(130)) {
			kept := []api.Message{{Key: api.Key{Time: m.Key.Time + 1, From: 4, Seq: l.log.State().Sent}, To: 1, Value: 1, Uid: 3}}
			one, e := l.try(m, i, kept)
			l.check()
			two, f := l.try(m, i, kept)
			l.check()
			x, g := l.do(m, i, kept)
			if e != g || f != g || !sameEntry(one, x) || !sameEntry(two, x) {
				t.Errorf("Try %d: %v, %d; Do: %v, %d", i, one, e, x, g)
			}
			l.check()
		}
	}
}
