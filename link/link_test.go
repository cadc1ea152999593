package link

import (
	"math"
	"slices"
	"testing"

	"isochron/api"
	"isochron/event"
)

// P11.1: the processes that a link may join are 0 to 15, each end looked at by itself; of whatever Look.
func TestNew(t *testing.T) {
	for _, c := range []struct {
		n  int
		is bool
	}{
		{math.MinInt, false}, {-1 << 32, false}, {-16, false}, {-2, false}, {-1, false}, {0, true}, {1, true}, {7, true}, {14, true}, {15, true},
		{16, false}, {17, false}, {31, false}, {1 << 32, false}, {1<<32 + 3, false}, {math.MaxInt, false},
	} {
		for _, l := range []api.Link{{From: c.n}, {To: c.n}, {From: c.n, To: 3}, {From: 3, To: c.n}, {From: c.n, To: 15}, {From: 15, To: c.n}, {From: c.n, To: c.n}} {
			for _, look := range []int64{math.MinInt64, -1, 0, 1, api.MaxTime, api.Never, math.MaxInt64} {
				for _, isLoose := range []bool{false, true} {
					l.Look, l.Loose = look, isLoose
					w, e := New(l, 3)
					if !c.is && (w != nil || e != 1) {
						t.Errorf("New(%v): %v, %d", l, w, e)
					}
					if c.is && (w == nil || e != api.OK || w.Len() != 0 || w.Room() != 3 || w.Least() != 1<<62 || len(w.All()) != 0) {
						t.Errorf("New(%v): %v, %d", l, w, e)
					}
				}
			}
		}
	}
}

// P11.1: most is 1 to 1024.
func TestNewMost(t *testing.T) {
	each(t, func(t *testing.T, isLoose bool) {
		for _, most := range []int{math.MinInt, math.MinInt + 1, -1 << 32, -1024, -2, -1, 0, 1025, 1026, 2048, 1 << 32, 1<<32 + 1, math.MaxInt - 1, math.MaxInt} {
			if w, e := New(linkOf(isLoose), most); w != nil || e != 1 {
				t.Errorf("most %d: %v, %d", most, w, e)
			}
			if w, e := New(api.Link{From: -1, To: 16}, most); w != nil || e != 1 {
				t.Errorf("nothing may be, most %d: %v, %d", most, w, e)
			}
		}
		for _, most := range []int{1, 2, 3, 1023, 1024} {
			w, e := New(linkOf(isLoose), most)
			if w == nil || e != api.OK || w.Room() != most || w.Len() != 0 {
				t.Errorf("most %d: %v, %d", most, w, e)
			}
		}
	})
}

// P11.1: so many as most says go in, and no more.
func TestMostAreThere(t *testing.T) {
	each(t, func(t *testing.T, isLoose bool) {
		for _, most := range []int{1, 2, 3, 1023, 1024} {
			b := bothOf(t, isLoose, most, parcels(most)...)
			b.check()
			if e := b.put(parcel(1, most)); e != 9 {
				t.Errorf("most %d, one more: %d", most, e)
			}
			b.check()
			b.checkTakes()
		}
	})
}

// wrong are parcels that may not go on the link of these tests.
func wrong() []api.Parcel {
	var l []api.Parcel
	add := func(change func(m *api.Message, n int), numbers ...int) {
		for _, n := range numbers {
			p := parcel(20, 500)
			change(&p.M, n)
			l = append(l, p)
		}
	}
	// What event.Check refuses, each of its parts by itself.
	add(func(m *api.Message, n int) { m.Key.Time = int64(n) }, math.MinInt, -2, -1, 1<<62, 1<<62+1, math.MaxInt)
	add(func(m *api.Message, n int) { m.Key.Seq = n }, math.MinInt, -2, -1)
	add(func(m *api.Message, n int) { m.Uid = n }, math.MinInt, -2, -1)
	// What is from another process, or from none; what is to another one, or to none.
	add(func(m *api.Message, n int) { m.Key.From = n }, math.MinInt, -2, -1, 0, 1, 3, 15, 16, 1<<32+2, math.MaxInt)
	add(func(m *api.Message, n int) { m.To = n }, math.MinInt, -1, 0, 2, 4, 15, 16, 1<<32+3, math.MaxInt)
	add(func(m *api.Message, n int) { m.Key.From, m.To = m.To, m.Key.From }, 0)
	return l
}

// P11.1: what is refused for what it is, ErrArg, whether there is room or not, and whether it is an anti-message or not; nothing changes.
func TestPutRefused(t *testing.T) {
	each(t, func(t *testing.T, isLoose bool) {
		for _, count := range []int{0, 1, 3, 4, 5, 9} {
			b := filled(t, isLoose, 4, count)
			for _, p := range wrong() {
				for _, x := range []api.Parcel{p, {M: event.Twin(p.M), Colour: p.Colour}} {
					if e := b.put(x); e != 1 {
						t.Errorf("%d of 4 there, Put(%v): %d", count, x, e)
					}
					b.check()
				}
			}
			b.checkTakes()
		}
	})
}

// P11.1: a link from a process to itself, and those at the ends of the processes' numbers, take just their own messages.
func TestPutOfEachLink(t *testing.T) {
	ends := []int{0, 1, 14, 15}
	for _, from := range ends {
		for _, to := range ends {
			for _, isLoose := range []bool{false, true} {
				w, e := New(api.Link{From: from, To: to, Loose: isLoose}, 1024)
				if e != api.OK {
					t.Fatalf("New from %d to %d: %d", from, to, e)
				}
				want := 0
				for f := -2; f < 18; f++ {
					for u := -1; u < 18; u++ {
						is := f == from && u == to
						if is {
							want++
						}
						if e := w.Put(api.Parcel{M: api.Message{Key: api.Key{From: f}, To: u}}); (e == api.OK) != is || !is && e != 1 {
							t.Errorf("from %d to %d: Put of one from %d to %d: %d", from, to, f, u, e)
						}
					}
				}
				if w.Len() != want || want != 1 {
					t.Errorf("from %d to %d: %d there", from, to, w.Len())
				}
			}
		}
	}
}

// P11.1: at one less than most there is room for both; at most and above it for an anti-message alone.
func TestPutAtMost(t *testing.T) {
	each(t, func(t *testing.T, isLoose bool) {
		for _, most := range []int{1, 2, 5, 1024} {
			for _, c := range []struct {
				count        int
				plain, twins api.Errno
			}{{most - 1, 0, 0}, {most, 9, 0}, {most + 1, 9, 0}, {most + 2, 9, 0}, {2*most + 7, 9, 0}} {
				b := filled(t, isLoose, most, c.count)
				if e := b.put(parcel(3, 7000)); e != c.plain {
					t.Errorf("most %d, %d there: Put: %d", most, c.count, e)
				}
				b.check()
				b = filled(t, isLoose, most, c.count)
				if e := b.put(anti(3, 7000)); e != c.twins {
					t.Errorf("most %d, %d there: Put of an anti-message: %d", most, c.count, e)
				}
				b.check()
				b.checkTakes()
			}
		}
	})
}

// P11.1: anti-messages take room from others: what counts is how many parcels there are, not of which kind.
func TestAntiMessagesTakeRoom(t *testing.T) {
	each(t, func(t *testing.T, isLoose bool) {
		b := bothOf(t, isLoose, 3, anti(9, 1), anti(8, 2))
		if got := b.way.Room(); got != 1 {
			t.Errorf("Room: %d", got)
		}
		b.putAll(parcel(7, 3))
		if e := b.put(parcel(6, 4)); e != 9 {
			t.Errorf("Put behind two anti-messages and one: %d", e)
		}
		b.putAll(anti(6, 5), anti(6, 6))
		for i, want := range []api.Errno{9, 9, 9, 0} {
			if e := b.put(parcel(6, 10+i)); e != want {
				t.Errorf("Put, %d taken: %d, want %d", i, e, want)
			}
			b.check()
			if i < 3 {
				b.take(i)
			}
		}
		b.checkTakes()
	})
}

// P11.1: nothing is made of what parcels carry: the same one twice, twins, any value, any colour, and the ends of what a message may be go through as they are.
func TestPutOfAnything(t *testing.T) {
	each(t, func(t *testing.T, isLoose bool) {
		p := parcel(5, 1)
		l := []api.Parcel{p, p, anti(5, 1), anti(5, 1), p, parcel(0, 0), parcel(1<<62-1, math.MaxInt), parcel(4, 1)}
		for _, colour := range []int{math.MinInt, -1, 0, 1, 2, 3, math.MaxInt} {
			p.Colour = colour
			l = append(l, p)
		}
		for _, value := range []int64{math.MinInt64, -1, 0, 1, math.MaxInt64} {
			p.M.Value = value
			l = append(l, p)
		}
		p.M.Key.Seq = math.MaxInt
		l = append(l, p)
		b := bothOf(t, isLoose, 100, l...)
		b.check()
		if !slices.Equal(b.way.All(), l) {
			t.Errorf("All: %v, want %v", b.way.All(), l)
		}
		b.checkTakes()
	})
}

// P11.1: of none there is none, at every number.
func TestNone(t *testing.T) {
	each(t, func(t *testing.T, isLoose bool) {
		for _, b := range []both{bothOf(t, isLoose, 1), bothOf(t, isLoose, 3, parcels(2)...)} {
			for b.way.Len() > 0 {
				b.take(0)
			}
			for _, n := range append(asked(0), asked(1)...) {
				if got := b.peek(n); got != (answer{e: 6}) {
					t.Errorf("Peek(%d): %v", n, got)
				}
				if got := b.take(n); got != (answer{e: 6}) {
					t.Errorf("Take(%d): %v", n, got)
				}
				b.check()
			}
			b.putAll(parcels(1)...)
			b.checkTakes()
		}
	})
}

// P11.1: which parcel of a Loose link is told, reckoned by hand.
func TestPlaces(t *testing.T) {
	for _, c := range []struct{ count, n, want int }{
		{1, 0, 0}, {1, 1, 0}, {1, -1, 0}, {1, 2, 0}, {1, -2, 0}, {1, math.MinInt, 0}, {1, math.MaxInt, 0},
		{2, 0, 0}, {2, 1, 1}, {2, -1, 1}, {2, 2, 0}, {2, 3, 1}, {2, -2, 0}, {2, -3, 1}, {2, math.MinInt, 0}, {2, math.MaxInt, 1},
		{3, 0, 0}, {3, 1, 1}, {3, 2, 2}, {3, 3, 0}, {3, 4, 1}, {3, 5, 2}, {3, -1, 2}, {3, -2, 1}, {3, -3, 0}, {3, -4, 2}, {3, -7, 2},
		{3, math.MinInt, 1}, {3, math.MinInt + 1, 2}, {3, math.MaxInt, 1}, {3, math.MaxInt - 1, 0},
		{5, 4, 4}, {5, 5, 0}, {5, 6, 1}, {5, -4, 1}, {5, -5, 0}, {5, -6, 4}, {5, math.MinInt, 2}, {5, math.MaxInt, 2},
		{7, -1, 6}, {7, 6, 6}, {7, 7, 0}, {7, 1 << 32, 4}, {7, -1 << 32, 3},
		{1024, -1, 1023}, {1024, 1024, 0}, {1024, 1025, 1}, {1024, -1024, 0}, {1024, -1025, 1023}, {1024, math.MinInt, 0}, {1024, math.MaxInt, 1023},
	} {
		l := parcels(c.count)
		for _, isLoose := range []bool{true, false} {
			place := c.want
			if !isLoose {
				place = 0
			}
			b := bothOf(t, isLoose, 1024, l...)
			if got := b.peek(c.n); got != (answer{p: l[place]}) {
				t.Errorf("Loose %v: Peek(%d) of %d: %v, want %v", isLoose, c.n, c.count, got, l[place])
			}
			b.check()
			if got := b.take(c.n); got != (answer{p: l[place]}) {
				t.Errorf("Loose %v: Take(%d) of %d: %v, want %v", isLoose, c.n, c.count, got, l[place])
			}
			if want := slices.Concat(l[:place], l[place+1:]); !slices.Equal(b.way.All(), want) {
				t.Errorf("Loose %v: behind Take(%d) of %d: %v, want %v", isLoose, c.n, c.count, b.way.All(), want)
			}
			b.check()
		}
	}
}

// P11.1: at every number that is asked, of every count: Peek, Peek once more, and Take tell the same; Peek changes nothing, Take leaves the others as they stood.
func TestPeekAndTake(t *testing.T) {
	each(t, func(t *testing.T, isLoose bool) {
		for _, most := range []int{1, 3, 40} {
			for count := 1; count < 20; count++ {
				for _, n := range append(asked(count), 9, -9, 1<<32, -1<<32) {
					b := filled(t, isLoose, most, count)
					one := b.peek(n)
					b.check()
					two := b.peek(n)
					b.check()
					if three := b.take(n); one != two || one != three || one.e != api.OK {
						t.Errorf("%d asked of %d: %v, %v, %v", n, count, one, two, three)
					}
					b.check()
					b.putAll(anti(1, 800))
					b.checkTakes()
				}
			}
		}
	})
}

// The document's example, in one row and each by itself.
func TestExample(t *testing.T) {
	a, b, c := parcel(10, 1), parcel(9, 2), parcel(8, 3)
	row := bothOf(t, true, 3, a, b, c)
	if got := row.take(4); got != (answer{p: b}) {
		t.Errorf("Take(4): %v", got)
	}
	if got := row.take(-1); got != (answer{p: c}) {
		t.Errorf("Take(-1): %v", got)
	}
	if got := bothOf(t, true, 3, a, b, c).take(-1); got != (answer{p: c}) {
		t.Errorf("Take(-1) of all three: %v", got)
	}
}

// P11.4: of a link that is not Loose parcels come out in the order in which they went in, whatever is asked for; of each one each once.
func TestInOrder(t *testing.T) {
	l := parcels(200)
	for _, n := range append(asked(200), 57, -57) {
		b := bothOf(t, false, 200, l...)
		for i, want := range l {
			if got := answered(b.way.Take(n + i%2)); got != (answer{p: want}) {
				t.Fatalf("Take(%d), the parcel %d: %v, want %v", n, i, got, want)
			}
		}
		if b.way.Len() != 0 {
			t.Errorf("%d are left", b.way.Len())
		}
	}
}

// P11.4: of a Loose link each comes out once.
func TestEachOnce(t *testing.T) {
	l := parcels(200)
	for _, step := range []int{0, 1, -1, 7, -13, 99, 1 << 40, math.MaxInt, math.MinInt} {
		b := bothOf(t, true, 200, l...)
		came := map[api.Parcel]int{}
		for i := range l {
			p, e := b.way.Take(step * i)
			if e != api.OK {
				t.Fatalf("Take(%d): %d", step*i, e)
			}
			came[p]++
		}
		for _, p := range l {
			if came[p] != 1 {
				t.Errorf("step %d: %v came %d times", step, p, came[p])
			}
		}
		if len(came) != len(l) || b.way.Len() != 0 {
			t.Errorf("step %d: %d came, %d are left", step, len(came), b.way.Len())
		}
	}
}

// P11.2: Room goes down with what is there, but not below 0.
func TestRoom(t *testing.T) {
	each(t, func(t *testing.T, isLoose bool) {
		for _, most := range []int{1, 2, 3, 1024} {
			b := bothOf(t, isLoose, most)
			for count := range most + 6 {
				if got, want := b.way.Room(), max(most-count, 0); got != want || b.way.Len() != count {
					t.Errorf("most %d: %d there, Room %d, want %d", most, b.way.Len(), got, want)
				}
				b.putAll(anti(4, count))
			}
			for count := most + 6; count > 0; count-- {
				if got, want := b.way.Room(), max(most-count, 0); got != want || b.way.Len() != count {
					t.Errorf("most %d: %d there, Room %d, want %d", most, b.way.Len(), got, want)
				}
				b.take(count)
			}
			if b.way.Room() != most {
				t.Errorf("most %d: Room of none: %d", most, b.way.Room())
			}
		}
	})
}

// P11.2: Least at the first, the last and any other place; of several with the same time; of an anti-message.
func TestLeast(t *testing.T) {
	const never = 1 << 62
	each(t, func(t *testing.T, isLoose bool) {
		for i, c := range []struct {
			l    []api.Parcel
			want int64
		}{
			{nil, never},
			{[]api.Parcel{parcel(0, 1)}, 0},
			{[]api.Parcel{parcel(5, 1)}, 5},
			{[]api.Parcel{anti(5, 1)}, 5},
			{[]api.Parcel{parcel(never-1, 1)}, never - 1},
			{[]api.Parcel{parcel(never-1, 1), anti(never-2, 2)}, never - 2},
			{[]api.Parcel{parcel(3, 1), parcel(4, 2), parcel(5, 3)}, 3},
			{[]api.Parcel{parcel(5, 1), parcel(3, 2), parcel(4, 3)}, 3},
			{[]api.Parcel{parcel(5, 1), parcel(4, 2), parcel(3, 3)}, 3},
			{[]api.Parcel{parcel(4, 1), parcel(4, 2), parcel(4, 3)}, 4},
			{[]api.Parcel{parcel(9, 1), parcel(4, 2), parcel(7, 3), parcel(4, 4)}, 4},
			{[]api.Parcel{parcel(9, 1), anti(2, 2), parcel(7, 3)}, 2},
			{[]api.Parcel{anti(2, 1), parcel(9, 2)}, 2},
			{[]api.Parcel{parcel(9, 1), parcel(7, 3), anti(2, 2)}, 2},
			{[]api.Parcel{anti(9, 1), parcel(2, 3), anti(3, 2)}, 2},
		} {
			b := bothOf(t, isLoose, 4, c.l...)
			if got := b.way.Least(); got != c.want {
				t.Errorf("%d: Least: %d, want %d", i, got, c.want)
			}
			b.checkTakes()
			if got := b.way.Least(); got != never {
				t.Errorf("%d: Least of what is empty again: %d", i, got)
			}
		}
	})
}

// P11.2: Least goes up when the earliest is taken, and stays while another of its time is there.
func TestLeastRises(t *testing.T) {
	b := bothOf(t, false, 5, parcel(3, 1), parcel(8, 2), anti(3, 3), parcel(6, 4), parcel(7, 5))
	for _, want := range []int64{3, 3, 3, 6, 7, 1 << 62} {
		if got := b.way.Least(); got != want {
			t.Errorf("Least: %d, want %d", got, want)
		}
		b.take(0)
	}
}

// P11.1, P11.4: there may be far more anti-messages than most; each comes once, in order where it must, and no call is slow for their number.
func TestManyAntiMessages(t *testing.T) {
	const many = 300000
	each(t, func(t *testing.T, isLoose bool) {
		w, _ := New(linkOf(isLoose), 1)
		for i := range many {
			if e := w.Put(anti(int64(i), i)); e != api.OK {
				t.Fatalf("Put: %d", e)
			}
		}
		if w.Len() != many || w.Room() != 0 || len(w.All()) != many {
			t.Errorf("%d there, Room %d", w.Len(), w.Room())
		}
		if e := w.Put(parcel(0, 0)); e != 9 {
			t.Errorf("Put of no anti-message: %d", e)
		}
		first, last := 0, many-1
		for i := range many {
			n, want := 0, first
			if isLoose && i%2 == 1 {
				n, want, last = -1, last, last-1
			} else {
				first++
			}
			if got := answered(w.Take(n)); got != (answer{p: anti(int64(want), want)}) {
				t.Fatalf("the take %d: %v, want %d", i, got, want)
			}
		}
		if w.Len() != 0 || w.Room() != 1 {
			t.Errorf("%d are left", w.Len())
		}
	})
}

// P11.3: of a nil way, and of one that no call made, nothing is told but ErrZero, whatever is asked for; none becomes one that a call made.
func TestWaysThatNoCallMade(t *testing.T) {
	for i, w := range []*Way{nil, {}} {
		for range 2 {
			for _, p := range append(wrong(), api.Parcel{}, parcel(5, 1), anti(5, 1)) {
				if e := w.Put(p); e != 7 {
					t.Errorf("way %d: Put(%v): %d", i, p, e)
				}
			}
			for _, n := range append(asked(0), asked(3)...) {
				if got := answered(w.Peek(n)); got != (answer{e: 7}) {
					t.Errorf("way %d: Peek(%d): %v", i, n, got)
				}
				if got := answered(w.Take(n)); got != (answer{e: 7}) {
					t.Errorf("way %d: Take(%d): %v", i, n, got)
				}
			}
			if w.Room() != 0 || w.Least() != 1<<62 || len(w.All()) != 0 || w.Len() != 0 {
				t.Errorf("way %d: Room %d, Least %d, All %v, Len %d", i, w.Room(), w.Least(), w.All(), w.Len())
			}
		}
	}
}

// P4: what is handed in may change behind a call, and is not changed by one.
func TestWhatIsHandedIn(t *testing.T) {
	each(t, func(t *testing.T, isLoose bool) {
		l := linkOf(isLoose)
		w, e := New(l, 3)
		if e != api.OK || l != linkOf(isLoose) {
			t.Fatalf("New: %d, %v", e, l)
		}
		l.From, l.To, l.Loose = 9, 9, !isLoose
		all := parcels(3)
		for i := range all {
			if e := w.Put(all[i]); e != api.OK {
				t.Errorf("Put: %d", e)
			}
		}
		if !slices.Equal(all, parcels(3)) {
			t.Errorf("what was put: %v", all)
		}
		clear(all)
		b := both{t: t, way: w, plain: &plain{link: linkOf(isLoose), most: 3, l: parcels(3)}}
		b.check()
		b.checkTakes()
	})
}

// scribble writes over all that a list holds, and over the room behind it.
func scribble(l []api.Parcel) {
	l = l[:cap(l)]
	for i := range l {
		l[i] = api.Parcel{M: api.Message{Key: api.Key{Time: -9}, To: 77}, Colour: 9}
	}
}

// P4: what becomes of lists that were handed out changes nothing on the way, nor in other lists.
func TestWhatIsHandedOut(t *testing.T) {
	each(t, func(t *testing.T, isLoose bool) {
		for count := range 12 {
			b := filled(t, isLoose, 5, count)
			one, two, want := b.way.All(), b.way.All(), slices.Clone(b.plain.l)
			scribble(one)
			b.check()
			if !slices.Equal(two, want) {
				t.Errorf("%d there: one list changed with another", count)
			}
			b.putAll(anti(1, 900), anti(2, 901))
			scribble(one)
			b.check()
			b.take(1)
			three := b.way.All()
			b.take(-1)
			scribble(three)
			b.check()
			b.checkTakes()
		}
	})
}

// P4: a list stays as it is, whatever is done with the way behind it.
func TestListsStay(t *testing.T) {
	each(t, func(t *testing.T, isLoose bool) {
		for count := range 30 {
			b := filled(t, isLoose, 20, count)
			list, want := b.way.All(), slices.Clone(b.plain.l)
			for i := range 3 * count {
				b.take(i * 5)
				b.putAll(anti(int64(i), 1000+i))
				b.take(-i)
				if !slices.Equal(list, want) {
					t.Fatalf("%d there, %d calls: a list changed", count, i)
				}
			}
		}
	})
}

// P5: ways know nothing of one another.
func TestTwoWays(t *testing.T) {
	a, b := bothOf(t, true, 2, parcels(2)...), bothOf(t, false, 3)
	b.check()
	b.putAll(anti(1, 1))
	a.check()
	a.take(1)
	b.check()
	a.putAll(parcel(30, 9))
	b.putAll(parcel(40, 9))
	a.check()
	b.check()
	a.checkTakes()
	b.checkTakes()
}
