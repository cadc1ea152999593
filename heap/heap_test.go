package heap

import (
	"math"
	"slices"
	"testing"

	"isochron/api"
	"isochron/draw"
)

// at is a message of process 0 at that time; uid tells its sending from others.
func at(time int64, uid int) api.Message {
	return api.Message{Key: api.Key{Time: time}, Uid: uid}
}

// message is one with all that counts in the order; what does not count hangs on it too, so that no two that differ look the same.
func message(time int64, from, seq, uid int) api.Message {
	return api.Message{
		Key:   api.Key{Time: time, From: from, Seq: seq},
		To:    (uid & 7) + (seq & 7),
		Value: time ^ int64(uid),
		Uid:   uid,
		Anti:  (seq+uid)%2 != 0,
	}
}

// times and numbers are the ends of their types and those around which the document changes what is answered elsewhere; they rise.
func times() []int64 {
	return []int64{math.MinInt64, math.MinInt64 + 1, -api.Never, -1, 0, 1, 15, 16, 1 << 32, api.MaxTime, api.Never, math.MaxInt64 - 1, math.MaxInt64}
}

func numbers() []int {
	return []int{math.MinInt, -16, -2, api.Outside, 0, 1, 15, 16, 1 << 40, math.MaxInt}
}

// ahead is the order of messages, read off chapter 2.
func ahead(a, b api.Message) bool {
	row := func(m api.Message) []int64 {
		return []int64{m.Key.Time, int64(m.Key.From), int64(m.Key.Seq), int64(m.Uid)}
	}
	return slices.Compare(row(a), row(b)) < 0
}

// plain is the queue, read off the document: a list in no order that each call looks through.
type plain struct {
	l []api.Message
}

func (p *plain) find(from, uid int) int {
	return slices.IndexFunc(p.l, func(m api.Message) bool { return m.Key.From == from && m.Uid == uid })
}

func (p *plain) push(m api.Message) api.Errno {
	if p.find(m.Key.From, m.Uid) >= 0 {
		return 8
	}
	if len(p.l) >= 16384 {
		return 9
	}
	p.l = append(p.l, m)
	return 0
}

// foremost is the place of the first message, or -1.
func (p *plain) foremost() int {
	place := -1
	for i, m := range p.l {
		if place < 0 || ahead(m, p.l[place]) {
			place = i
		}
	}
	return place
}

func (p *plain) at(place int) (api.Message, api.Errno) {
	if place < 0 {
		return api.Message{}, 6
	}
	return p.l[place], 0
}

func (p *plain) take(place int) (api.Message, api.Errno) {
	m, e := p.at(place)
	if e == 0 {
		p.l = slices.Delete(p.l, place, place+1)
	}
	return m, e
}

func (p *plain) all() []api.Message {
	l := slices.Clone(p.l)
	slices.SortFunc(l, func(a, b api.Message) int {
		if ahead(a, b) {
			return -1
		}
		return 1
	})
	return l
}

// answer is what a call that may be refused tells.
type answer struct {
	m api.Message
	e api.Errno
}

func answered(m api.Message, e api.Errno) answer { return answer{m, e} }

// check holds what q tells of itself against the messages that should be there, and does so twice, as telling changes nothing.
func check(t *testing.T, q *Heap, want ...api.Message) {
	t.Helper()
	p := &plain{l: slices.Clone(want)}
	for range 2 {
		if q.Len() != len(want) {
			t.Fatalf("Len: %d, want %d", q.Len(), len(want))
		}
		if got := q.All(); !slices.Equal(got, p.all()) {
			t.Fatalf("All: %v, want %v", got, p.all())
		}
		if got, first := answered(q.First()), answered(p.at(p.foremost())); got != first {
			t.Fatalf("First: %v, want %v", got, first)
		}
	}
}

// checkPops takes all out of q, which must be what is wanted, each once, in the order of messages.
func checkPops(t *testing.T, q *Heap, want ...api.Message) {
	t.Helper()
	p := &plain{l: slices.Clone(want)}
	for i, m := range p.all() {
		if first, got := answered(q.First()), answered(q.Pop()); first != (answer{m: m}) || got != first {
			t.Fatalf("the pop %d: %v, the first %v, want %v", i, got, first, m)
		}
		if q.Len() != len(want)-1-i {
			t.Fatalf("behind the pop %d: Len %d", i, q.Len())
		}
	}
	check(t, q)
	if got := answered(q.Pop()); got != (answer{e: api.ErrNone}) {
		t.Fatalf("Pop of what is empty: %v", got)
	}
}

func push(t *testing.T, q *Heap, l ...api.Message) {
	t.Helper()
	for _, m := range l {
		if e := q.Push(m); e != api.OK {
			t.Fatalf("Push(%v): %d", m, e)
		}
	}
}

// queueOf is a queue into which l was pushed, one by one.
func queueOf(t *testing.T, l ...api.Message) *Heap {
	t.Helper()
	q := New()
	push(t, q, l...)
	return q
}

// shuffled is l in another order, the same one each time; step must have no divisor in common with len(l).
func shuffled(l []api.Message, step int) []api.Message {
	out := make([]api.Message, len(l))
	for i := range l {
		out[i] = l[i*step%len(l)]
	}
	return out
}

// P6.1: New is empty; of an empty queue nothing is answered, and it can be used on.
func TestNew(t *testing.T) {
	q := New()
	if q == nil {
		t.Fatal("New: nil")
	}
	check(t, q)
	for range 3 {
		for _, got := range []answer{answered(q.First()), answered(q.Pop()), answered(q.Cut(0, 0)), answered(q.Cut(-1, 5))} {
			if got != (answer{e: api.ErrNone}) {
				t.Errorf("of an empty queue: %v", got)
			}
		}
	}
	push(t, q, at(1, 0))
	check(t, q, at(1, 0))
}

// The document's example.
func TestExample(t *testing.T) {
	q := queueOf(t, at(5, 1), at(3, 2), at(4, 3))
	for i, c := range []struct {
		call func() (api.Message, api.Errno)
		want answer
	}{
		{q.Pop, answer{m: at(3, 2)}},
		{func() (api.Message, api.Errno) { return q.Cut(0, 1) }, answer{m: at(5, 1)}},
		{q.Pop, answer{m: at(4, 3)}},
		{q.Pop, answer{e: api.ErrNone}},
	} {
		if got := answered(c.call()); got != c.want {
			t.Errorf("call %d: %v, want %v", i, got, c.want)
		}
	}
}

// P6.1: the first is by Time, then From, then Seq, then Uid, and by nothing else.
func TestTheFirstOfTwo(t *testing.T) {
	for _, c := range []struct {
		name string
		a, b api.Message // a is ahead of b
	}{
		{"a Time, all else against it", message(4, 9, 9, 9), message(5, 1, 1, 1)},
		{"a Time below 0", message(-1, 9, 9, 9), message(0, 1, 1, 1)},
		{"the least and the greatest Time", message(math.MinInt64, 0, 0, 0), message(math.MaxInt64, 0, 0, 1)},
		{"the last time and Never", message(api.MaxTime, 9, 9, 9), message(api.Never, 1, 1, 1)},
		{"From, all behind it against it", message(5, 1, 9, 9), message(5, 2, 1, 1)},
		{"From outside", message(5, api.Outside, 9, 9), message(5, 0, 1, 1)},
		{"From at its ends", message(5, math.MinInt, 0, 0), message(5, math.MaxInt, 0, 0)},
		{"Seq, Uid against it", message(5, 1, 3, 9), message(5, 1, 4, 8)},
		{"Seq at its ends", message(5, 1, math.MinInt, 9), message(5, 1, math.MaxInt, 8)},
		{"Uid alone", message(5, 1, 3, 8), message(5, 1, 3, 9)},
		{"Uid at its ends", message(5, 1, 3, math.MinInt), message(5, 1, 3, math.MaxInt)},
		{
			"what does not count, against it",
			api.Message{Key: api.Key{Time: 5}, To: 9, Value: 9, Uid: 1, Anti: true},
			api.Message{Key: api.Key{Time: 5}, To: -9, Value: -9, Uid: 2},
		},
	} {
		for _, l := range [][]api.Message{{c.a, c.b}, {c.b, c.a}} {
			q := queueOf(t, l...)
			if got := q.All(); !slices.Equal(got, []api.Message{c.a, c.b}) {
				t.Errorf("%s: All: %v", c.name, got)
			}
			for i, want := range []api.Message{c.a, c.b} {
				if first, got := answered(q.First()), answered(q.Pop()); first != (answer{m: want}) || got != first {
					t.Errorf("%s: the pop %d: %v, the first %v", c.name, i, got, first)
				}
			}
		}
	}
}

// P6.1, P6.3: any message may be; at all edges what is popped comes in the order, in whichever it was pushed.
func TestAllEdges(t *testing.T) {
	var l []api.Message
	for _, time := range times() {
		for _, from := range numbers() {
			for i, seq := range numbers() {
				// Of one From each Uid must be another one.
				l = append(l, message(time, from, seq, math.MinInt+len(l)))
				l = append(l, message(time, from, numbers()[9-i], math.MaxInt-len(l)))
			}
		}
	}
	falling := slices.Clone(l)
	slices.Reverse(falling)
	for _, pushed := range [][]api.Message{l, falling, shuffled(l, 1009), shuffled(l, 37)} {
		q := queueOf(t, pushed...)
		check(t, q, l...)
		checkPops(t, q, l...)
	}
}

// P6.1: a message of a sending that is there is refused whatever else differs, and none of another sending is.
func TestTwice(t *testing.T) {
	m := api.Message{Key: api.Key{Time: 7, From: 3, Seq: 2}, To: 4, Value: 9, Uid: 6}
	for _, c := range []struct {
		name   string
		change func(*api.Message)
		want   api.Errno
	}{
		{"the same", func(*api.Message) {}, api.ErrTwice},
		{"its Time", func(x *api.Message) { x.Key.Time = 1 }, api.ErrTwice},
		{"its Time, below 0", func(x *api.Message) { x.Key.Time = math.MinInt64 }, api.ErrTwice},
		{"its Seq", func(x *api.Message) { x.Key.Seq = 8 }, api.ErrTwice},
		{"its To", func(x *api.Message) { x.To = 5 }, api.ErrTwice},
		{"its value", func(x *api.Message) { x.Value = -9 }, api.ErrTwice},
		{"its twin", func(x *api.Message) { x.Anti = true }, api.ErrTwice},
		{"all but From and Uid", func(x *api.Message) {
			*x = api.Message{Key: api.Key{From: 3}, Uid: 6, Anti: true}
		}, api.ErrTwice},
		{"its Uid", func(x *api.Message) { x.Uid = 7 }, api.OK},
		{"its Uid, below 0", func(x *api.Message) { x.Uid = -6 }, api.OK},
		{"its From", func(x *api.Message) { x.Key.From = 4 }, api.OK},
		{"its From, outside", func(x *api.Message) { x.Key.From = api.Outside }, api.OK},
		{"From and Uid", func(x *api.Message) { x.Key.From, x.Uid = 4, 7 }, api.OK},
		{"From and Uid, each the other's", func(x *api.Message) { x.Key.From, x.Uid = 6, 3 }, api.OK},
		{"From and Uid with the same sum", func(x *api.Message) { x.Key.From, x.Uid = 4, 5 }, api.OK},
		{"another at 2^32", func(x *api.Message) { x.Uid += 1 << 32 }, api.OK},
	} {
		x := m
		c.change(&x)
		for _, others := range [][]api.Message{{}, {at(3, 20), at(9, 21), at(7, 22)}} {
			want := append(slices.Clone(others), m)
			q := queueOf(t, want...)
			if e := q.Push(x); e != c.want {
				t.Errorf("%s differs: Push: %d, want %d", c.name, e, c.want)
			}
			if c.want == api.OK {
				want = append(want, x)
			}
			check(t, q, want...)
			checkPops(t, q, want...)
		}
	}
}

// P6.1: a sending that was popped or cut may come again, as the same message or as another.
func TestAgainBehindItsEnd(t *testing.T) {
	m, others := message(7, 3, 2, 6), []api.Message{at(8, 1), at(9, 2), at(7, 3)}
	for _, again := range []api.Message{m, message(-1, 3, 0, 6), message(math.MaxInt64, 3, 8, 6)} {
		q := queueOf(t, append(slices.Clone(others), m)...)
		if got := answered(q.Cut(3, 6)); got != (answer{m: m}) {
			t.Errorf("Cut: %v", got)
		}
		push(t, q, again)
		check(t, q, append(slices.Clone(others), again)...)
		if e := q.Push(m); e != api.ErrTwice {
			t.Errorf("Push of what came again: %d", e)
		}
		q.Cut(3, 6)
		checkPops(t, q, others...)
		push(t, q, again)
		if got := answered(q.Pop()); got != (answer{m: again}) {
			t.Errorf("Pop: %v", got)
		}
		push(t, q, m)
		check(t, q, m)
	}
}

// P6.1: what is refused, or not there, leaves the queue as it was; also what is Cut or Popped is gone just once.
func TestGoneOnce(t *testing.T) {
	l := []api.Message{at(5, 1), at(3, 2), at(4, 3)}
	q := queueOf(t, l...)
	if got := answered(q.Pop()); got != (answer{m: at(3, 2)}) {
		t.Errorf("Pop: %v", got)
	}
	if got := answered(q.Cut(0, 2)); got != (answer{e: api.ErrNone}) {
		t.Errorf("Cut of what was popped: %v", got)
	}
	check(t, q, l[0], l[2])
	if got := answered(q.Cut(0, 3)); got != (answer{m: at(4, 3)}) {
		t.Errorf("Cut: %v", got)
	}
	if got := answered(q.Cut(0, 3)); got != (answer{e: api.ErrNone}) {
		t.Errorf("Cut of what was cut: %v", got)
	}
	checkPops(t, q, l[0])
}

// P6.1: Cut of what is not there.
func TestCutOfNone(t *testing.T) {
	l := []api.Message{message(5, 3, 0, 6), message(4, api.Outside, 1, 2), message(6, 2, 2, 2), message(5, 0, 3, 0)}
	q := queueOf(t, l...)
	for _, c := range []struct{ from, uid int }{
		{3, 5}, {3, 7}, {2, 6}, {4, 6}, {6, 3}, {3, -6}, {-3, 6},
		{api.Outside, 0}, {0, api.Outside}, {0, 2}, {2, 0}, {5, 6}, {3, 1<<32 + 6}, {1<<32 + 3, 6},
		{math.MinInt, math.MinInt}, {math.MaxInt, math.MaxInt}, {math.MinInt, 6}, {3, math.MaxInt},
	} {
		if got := answered(q.Cut(c.from, c.uid)); got != (answer{e: api.ErrNone}) {
			t.Errorf("Cut(%d, %d): %v", c.from, c.uid, got)
		}
		check(t, q, l...)
	}
	checkPops(t, q, l...)
}

// P6.1: Cut of the first, the last, each between, and the only one, at queues of all sizes up to 40 that were pushed in several orders.
func TestCutOfEach(t *testing.T) {
	for n := 1; n <= 40; n++ {
		var l []api.Message
		for i := range n {
			l = append(l, message(int64(i/2), i%3, -i, i))
		}
		falling := slices.Clone(l)
		slices.Reverse(falling)
		for _, pushed := range [][]api.Message{l, falling, shuffled(l, 41), shuffled(l, 1009)} {
			for i, m := range pushed {
				q := queueOf(t, pushed...)
				if got := answered(q.Cut(m.Key.From, m.Uid)); got != (answer{m: m}) {
					t.Fatalf("of %d, Cut of %v: %v", n, m, got)
				}
				rest := slices.Delete(slices.Clone(pushed), i, i+1)
				check(t, q, rest...)
				checkPops(t, q, rest...)
			}
		}
	}
}

// P6.1: where the gap is filled by one from another branch, that one may have to go up.
func TestCutAcrossBranches(t *testing.T) {
	var l []api.Message
	for i, time := range []int64{0, 100, 1, 101, 102, 2, 3, 103, 104, 105, 106, 4, 5, 6, 7} {
		l = append(l, at(time, i))
	}
	for uid := range l {
		q := queueOf(t, l...)
		rest := slices.Delete(slices.Clone(l), uid, uid+1)
		if got := answered(q.Cut(0, uid)); got != (answer{m: l[uid]}) {
			t.Errorf("Cut of %d: %v", uid, got)
		}
		checkPops(t, q, rest...)
	}
}

// full is a queue of MaxQueue messages, with what is in it; their times are in no order, some the same.
func full(t *testing.T) (*Heap, []api.Message) {
	t.Helper()
	var l []api.Message
	for i := range 16384 {
		l = append(l, message(int64(i*7919%16384/3), i%5-1, i%7, i))
	}
	return queueOf(t, l...), l
}

// P6.1: MaxQueue messages go in, one more does not; ErrTwice is told ahead of ErrFull; behind a Pop or a Cut there is room for one.
func TestFull(t *testing.T) {
	q, l := full(t)
	for _, m := range []api.Message{message(-5, 0, 0, 16384), message(math.MaxInt64, 15, 0, -1), {}} {
		if m == (api.Message{}) {
			m = api.Message{Key: api.Key{From: 1}, Uid: 5}
		}
		if e := q.Push(m); e != api.ErrFull {
			t.Errorf("Push of one more: %d", e)
		}
	}
	for _, m := range []api.Message{l[0], l[16383], {Key: api.Key{Time: -9, From: l[5].Key.From}, Uid: 5}} {
		if e := q.Push(m); e != api.ErrTwice {
			t.Errorf("Push of a sending that is there: %d", e)
		}
	}
	check(t, q, l...)

	more := message(1, 2, 3, 16384)
	first := (&plain{l: l}).foremost()
	if got := answered(q.Pop()); got != (answer{m: l[first]}) {
		t.Errorf("Pop: %v", got)
	}
	l[first] = more
	push(t, q, more)
	if e := q.Push(message(1, 2, 3, 16385)); e != api.ErrFull {
		t.Errorf("Push behind a Pop and a Push: %d", e)
	}
	if got := answered(q.Cut(l[777].Key.From, 777)); got != (answer{m: l[777]}) {
		t.Errorf("Cut: %v", got)
	}
	l[777] = message(1, 2, 3, 16385)
	push(t, q, l[777])
	if e := q.Push(message(1, 2, 3, 16386)); e != api.ErrFull {
		t.Errorf("Push behind a Cut and a Push: %d", e)
	}
	check(t, q, l...)
}

// P6.3: of MaxQueue messages each comes once, in the order, however they were pushed.
func TestPopsOfMany(t *testing.T) {
	_, l := full(t)
	rising := (&plain{l: l}).all()
	falling := slices.Clone(rising)
	slices.Reverse(falling)
	for _, pushed := range [][]api.Message{l, rising, falling, shuffled(rising, 5003)} {
		q := queueOf(t, pushed...)
		for i, want := range rising {
			if got := answered(q.Pop()); got != (answer{m: want}) {
				t.Fatalf("the pop %d: %v, want %v", i, got, want)
			}
		}
		check(t, q)
	}
}

// P6.1 and P4: All is in the order of messages, leaves the queue as it was, and is memory of its own.
func TestAll(t *testing.T) {
	var l []api.Message
	for i := range 50 {
		l = append(l, message(int64(i*13%50/2), i%4, -i, i))
	}
	q := queueOf(t, l...)
	want := (&plain{l: l}).all()
	one, two := q.All(), q.All()
	clear(one)
	one = append(one[:0], make([]api.Message, cap(one))...)
	if !slices.Equal(two, want) {
		t.Error("two lists share memory")
	}
	check(t, q, l...)
	q.Pop()
	q.Cut(l[9].Key.From, 9)
	push(t, q, at(-8, 70))
	if !slices.Equal(two, want) {
		t.Error("a list changed with its queue")
	}
	three := append(q.All(), at(1, 90))
	clear(three)
	rest := slices.DeleteFunc(slices.Clone(want[1:]), func(m api.Message) bool { return m == l[9] })
	checkPops(t, q, append(rest, at(-8, 70))...)
}

// P4: what is pushed is kept as it was, whatever becomes of the caller's.
func TestWhatIsHandedInIsKept(t *testing.T) {
	l := []api.Message{at(5, 1), at(3, 2), at(4, 3)}
	before := slices.Clone(l)
	q := New()
	for i := range l {
		q.Push(l[i])
	}
	if !slices.Equal(l, before) {
		t.Errorf("what was handed in: %v", l)
	}
	clear(l)
	checkPops(t, q, before...)
}

// P6.2: a nil queue, and one that no call made.
func TestQueuesThatNoCallMade(t *testing.T) {
	var none *Heap
	var plain Heap
	for _, q := range []*Heap{none, &plain, {}, new(Heap)} {
		for range 2 {
			for _, m := range []api.Message{{}, at(5, 1), at(-1, 2)} {
				if e := q.Push(m); e != api.ErrZero {
					t.Errorf("Push: %d", e)
				}
			}
			for _, got := range []answer{answered(q.First()), answered(q.Pop()), answered(q.Cut(0, 1)), answered(q.Cut(math.MinInt, math.MaxInt))} {
				if got != (answer{e: api.ErrZero}) {
					t.Errorf("%v, want ErrZero", got)
				}
			}
			if len(q.All()) != 0 || q.Len() != 0 {
				t.Errorf("All: %v, Len: %d", q.All(), q.Len())
			}
		}
	}
}

// P5: queues know nothing of one another.
func TestTwoQueues(t *testing.T) {
	a, b := New(), New()
	push(t, a, at(5, 1), at(3, 2))
	check(t, b)
	push(t, b, at(9, 1), at(1, 3))
	a.Pop()
	check(t, b, at(9, 1), at(1, 3))
	b.Cut(0, 1)
	check(t, a, at(5, 1))
	checkPops(t, b, at(1, 3))
	checkPops(t, a, at(5, 1))
}

// chance is a row of numbers that hang on a seed.
type chance struct {
	seed uint64
	n    int
}

func (c *chance) below(k int) int {
	c.n++
	return int(draw.Below(c.seed, 0, c.n, int64(k)))
}

// spread is how far apart the messages of a play are.
type spread struct {
	times, froms, seqs, uids int
}

func (c *chance) message(s spread) api.Message {
	m := message(int64(c.below(s.times)-s.times/2), c.below(s.froms)-1, c.below(s.seqs), c.below(s.uids))
	m.Value, m.Anti, m.To = int64(c.below(100)), c.below(2) == 0, c.below(16)
	if c.below(20) == 0 {
		m.Key.Time = times()[c.below(len(times()))]
	}
	return m
}

// step is one call, made of the queue and of its second reading; pushes is how many of a hundred calls are a Push.
func (c *chance) step(q *Heap, p *plain, s spread, pushes int) (got, want answer) {
	m := c.message(s)
	switch {
	case c.below(100) < pushes:
		return answer{e: q.Push(m)}, answer{e: p.push(m)}
	case c.below(2) == 0:
		return answered(q.Pop()), answered(p.take(p.foremost()))
	case len(p.l) > 0 && c.below(3) > 0:
		m = p.l[c.below(len(p.l))]
	}
	return answered(q.Cut(m.Key.From, m.Uid)), answered(p.take(p.find(m.Key.From, m.Uid)))
}

// play makes so many calls of q and p, and holds all that they tell against each other; behind some hundreds of calls the queue rather grows than shrinks, or the other way round.
func (c *chance) play(t *testing.T, q *Heap, p *plain, s spread, steps int, ends map[api.Errno]int) {
	t.Helper()
	pushes := 60
	for i := range steps {
		if i%300 == 0 {
			pushes = 35 + c.below(50)
		}
		got, want := c.step(q, p, s, pushes)
		if got != want {
			t.Fatalf("seed %d, %v, call %d: %v, want %v", c.seed, s, i, got, want)
		}
		ends[got.e]++
		if first := answered(p.at(p.foremost())); q.Len() != len(p.l) || answered(q.First()) != first {
			t.Fatalf("seed %d, %v, call %d: Len %d, want %d; want first %v", c.seed, s, i, q.Len(), len(p.l), first)
		}
		if i%64 == 0 && !slices.Equal(q.All(), p.all()) {
			t.Fatalf("seed %d, %v, call %d: All: %v, want %v", c.seed, s, i, q.All(), p.all())
		}
	}
	checkPops(t, q, p.l...)
}

func spreads() []spread {
	return []spread{
		{times: 1, froms: 2, seqs: 1, uids: 40},
		{times: 2, froms: 3, seqs: 2, uids: 8},
		{times: 10, froms: 1, seqs: 1, uids: 30},
		{times: 50, froms: 4, seqs: 4, uids: 100},
		{times: 100000, froms: 17, seqs: 100, uids: 100},
		{times: 1 << 40, froms: 5, seqs: 3, uids: 1 << 30},
	}
}

// P6.1, P6.3: long plays, held against the second reading.
func TestPlays(t *testing.T) {
	ends := map[api.Errno]int{}
	for seed := range uint64(12) {
		for _, s := range spreads() {
			(&chance{seed: seed}).play(t, New(), &plain{}, s, 3000, ends)
		}
	}
	for _, e := range []api.Errno{api.OK, api.ErrTwice, api.ErrNone} {
		if ends[e] < 1000 {
			t.Errorf("only %d ended with %d", ends[e], e)
		}
	}
}

// P6.1, P6.3: plays around MaxQueue messages.
func TestPlaysAtTheLimit(t *testing.T) {
	q, l := full(t)
	p, c, ends := &plain{l: l}, &chance{seed: 99}, map[api.Errno]int{}
	c.play(t, q, p, spread{times: 6000, froms: 6, seqs: 9, uids: 20000}, 4000, ends)
	for _, e := range []api.Errno{api.OK, api.ErrTwice, api.ErrFull} {
		if ends[e] < 100 {
			t.Errorf("only %d ended with %d", ends[e], e)
		}
	}
}

// P5: what is answered hangs on the calls alone: the same play, once more, answers the same.
func TestThePlayOnceMore(t *testing.T) {
	s := spreads()[3]
	for seed := range uint64(20) {
		a, b := New(), New()
		one, two := &chance{seed: seed}, &chance{seed: seed}
		for i := range 300 {
			x, _ := one.step(a, &plain{}, s, 60)
			y, _ := two.step(b, &plain{}, s, 60)
			if x != y || !slices.Equal(a.All(), b.All()) {
				t.Fatalf("seed %d, call %d: %v, %v", seed, i, x, y)
			}
		}
	}
}
