package event

import (
	"math"
	"slices"
	"testing"

	"isochron/api"
)

func key(time int64, from, seq int) api.Key {
	return api.Key{Time: time, From: from, Seq: seq}
}

// times, froms and numbers are those at which the document changes what is answered, their neighbours, and the ends of their types; they rise.
func times() []int64 {
	return []int64{math.MinInt64, -api.Never, -1, 0, 1, 1 << 32, api.MaxTime - 1, api.MaxTime, api.Never, math.MaxInt64}
}

func froms() []int {
	return []int{math.MinInt, -2, api.Outside, 0, 1, 14, 15, 16, math.MaxInt}
}

func numbers() []int {
	return []int{math.MinInt, -1, 0, 1, 5, 1 << 40, math.MaxInt}
}

// risingKeys are all keys of the edges, each one's place in the list its place in the order.
func risingKeys() []api.Key {
	var l []api.Key
	for _, time := range times() {
		for _, from := range froms() {
			for _, seq := range numbers() {
				l = append(l, key(time, from, seq))
			}
		}
	}
	return l
}

// risingMessages are messages of some edges, each one's place in the list its place in the order; what does not count in the order goes against it.
func risingMessages() []api.Message {
	var l []api.Message
	for _, time := range []int64{math.MinInt64, 0, 1, api.MaxTime, math.MaxInt64} {
		for _, from := range []int{math.MinInt, api.Outside, 0, 15, math.MaxInt} {
			for _, seq := range []int{math.MinInt, 0, 1, math.MaxInt} {
				for _, uid := range []int{math.MinInt, -1, 0, 1, math.MaxInt} {
					m := api.Message{Key: key(time, from, seq), Uid: uid}
					m.To, m.Value, m.Anti = 15-len(l)%16, -int64(len(l)), len(l)%2 == 0
					l = append(l, m)
				}
			}
		}
	}
	return l
}

// shuffled is l in another order, the same one each time; step must have no divisor in common with len(l).
func shuffled[T any](l []T, step int) []T {
	out := make([]T, len(l))
	for i := range l {
		out[i] = l[i*step%len(l)]
	}
	return out
}

// P2.1: Compare.
func TestCompare(t *testing.T) {
	for _, c := range []struct {
		a, b api.Key
		want int
	}{
		{key(1, 0, 5), key(1, 1, 0), -1},
		{key(1, 0, 0), key(2, 0, 0), -1},
		{key(1, 15, 99), key(2, api.Outside, 0), -1},
		{key(1, api.Outside, 9), key(1, 0, 0), -1},
		{key(1, 3, 4), key(1, 3, 5), -1},
		{key(0, 0, 0), key(api.MaxTime, 0, 0), -1},
		{key(api.MaxTime, 15, 0), key(api.Never, api.Outside, 0), -1},
		{key(math.MinInt64, 0, 0), key(math.MaxInt64, 0, 0), -1},
		{key(0, math.MinInt, 0), key(0, math.MaxInt, 0), -1},
		{key(0, 0, math.MinInt), key(0, 0, math.MaxInt), -1},
		{key(0, 0, 0), key(0, 0, 0), 0},
		{key(7, 3, 2), key(7, 3, 2), 0},
		{key(api.MaxTime, 15, math.MaxInt), key(api.MaxTime, 15, math.MaxInt), 0},
		{key(math.MinInt64, math.MinInt, math.MinInt), key(math.MinInt64, math.MinInt, math.MinInt), 0},
	} {
		if got := Compare(c.a, c.b); got != c.want {
			t.Errorf("Compare(%v, %v) = %d, want %d", c.a, c.b, got, c.want)
		}
		if got := Compare(c.b, c.a); got != -c.want {
			t.Errorf("Compare(%v, %v) = %d, want %d", c.b, c.a, got, -c.want)
		}
	}
}

// P2.1 and P2.3: at every pair of edges Compare is the order of their places in a list that rises, so it is an order of any three, and 0 just of the same keys.
func TestCompareAtAllEdges(t *testing.T) {
	l := risingKeys()
	for i, a := range l {
		for j, b := range l {
			want := 0
			if i < j {
				want = -1
			} else if i > j {
				want = 1
			}
			if got := Compare(a, b); got != want {
				t.Fatalf("Compare(%v, %v) = %d, want %d", a, b, got, want)
			}
		}
	}
}

// P2.3: Compare is an order of any three keys, and 0 just of the same ones.
func TestCompareIsAnOrder(t *testing.T) {
	var l []api.Key
	for _, time := range []int64{math.MinInt64, 0, math.MaxInt64} {
		for _, from := range []int{math.MinInt, 0, math.MaxInt} {
			for _, seq := range []int{math.MinInt, 0, math.MaxInt} {
				l = append(l, key(time, from, seq))
			}
		}
	}
	for _, a := range l {
		for _, b := range l {
			if (Compare(a, b) == 0) != (a == b) || Compare(a, b) != -Compare(b, a) {
				t.Fatalf("Compare(%v, %v) = %d, the other way %d", a, b, Compare(a, b), Compare(b, a))
			}
			for _, c := range l {
				if Compare(a, b) <= 0 && Compare(b, c) <= 0 && Compare(a, c) > 0 {
					t.Fatalf("%v, %v, %v: no order", a, b, c)
				}
			}
		}
	}
}

// P2.1: Before.
func TestBefore(t *testing.T) {
	m := api.Message{Key: key(5, 3, 2), To: 4, Value: 9, Uid: 7}
	for _, c := range []struct {
		name   string
		change func(*api.Message)
		ahead  bool // m is ahead of the changed one
		behind bool
	}{
		{"the same", func(*api.Message) {}, false, false},
		{"later", func(x *api.Message) { x.Key.Time++ }, true, false},
		{"sooner", func(x *api.Message) { x.Key.Time-- }, false, true},
		{"a higher sender", func(x *api.Message) { x.Key.From++ }, true, false},
		{"from outside", func(x *api.Message) { x.Key.From = api.Outside }, false, true},
		{"a higher Seq", func(x *api.Message) { x.Key.Seq++ }, true, false},
		{"a lower Seq", func(x *api.Message) { x.Key.Seq-- }, false, true},
		{"a higher Uid", func(x *api.Message) { x.Uid++ }, true, false},
		{"a lower Uid", func(x *api.Message) { x.Uid-- }, false, true},
		{"the last Uid", func(x *api.Message) { x.Uid = math.MaxInt }, true, false},
		{"the first Uid", func(x *api.Message) { x.Uid = math.MinInt }, false, true},
		{"later, a lower Uid", func(x *api.Message) { x.Key.Time++; x.Uid = 0 }, true, false},
		{"a lower Seq, a higher Uid", func(x *api.Message) { x.Key.Seq--; x.Uid = 99 }, false, true},
		{"To does not count", func(x *api.Message) { x.To = 15 }, false, false},
		{"Value does not count", func(x *api.Message) { x.Value = math.MinInt64 }, false, false},
		{"Anti does not count", func(x *api.Message) { x.Anti = true }, false, false},
	} {
		x := m
		c.change(&x)
		if got := Before(m, x); got != c.ahead {
			t.Errorf("%s: Before = %t, want %t", c.name, got, c.ahead)
		}
		if got := Before(x, m); got != c.behind {
			t.Errorf("%s, the other way: Before = %t, want %t", c.name, got, c.behind)
		}
	}
}

// P2.1: at every pair of edges Before is the order of their places in a list that rises.
func TestBeforeAtAllEdges(t *testing.T) {
	l := risingMessages()
	for i, a := range l {
		for j, b := range l {
			if got := Before(a, b); got != (i < j) {
				t.Fatalf("Before(%v, %v) = %t, want %t", a, b, got, i < j)
			}
		}
	}
}

// P2.1: One and Twins hang on From and Uid, and Twins on Anti; on nothing else.
func TestOneAndTwins(t *testing.T) {
	m := api.Message{Key: key(5, 3, 2), To: 4, Value: 9, Uid: 7}
	for _, c := range []struct {
		name   string
		change func(*api.Message)
		one    bool
	}{
		{"the same", func(*api.Message) {}, true},
		{"another Time", func(x *api.Message) { x.Key.Time = api.MaxTime }, true},
		{"another Seq", func(x *api.Message) { x.Key.Seq = 0 }, true},
		{"another To", func(x *api.Message) { x.To = 0 }, true},
		{"another Value", func(x *api.Message) { x.Value = math.MaxInt64 }, true},
		{"all others", func(x *api.Message) { x.Key.Time, x.Key.Seq, x.To, x.Value = -1, -1, -1, -1 }, true},
		{"another From", func(x *api.Message) { x.Key.From = 4 }, false},
		{"from outside", func(x *api.Message) { x.Key.From = api.Outside }, false},
		{"another Uid", func(x *api.Message) { x.Uid = 8 }, false},
		{"Uid 0", func(x *api.Message) { x.Uid = 0 }, false},
		{"From and Uid changed about", func(x *api.Message) { x.Key.From, x.Uid = 7, 3 }, false},
		{"From and Uid of the same sum", func(x *api.Message) { x.Key.From, x.Uid = 4, 6 }, false},
		{"the ends", func(x *api.Message) { x.Key.From, x.Uid = math.MinInt, math.MaxInt }, false},
	} {
		for _, anti := range []bool{false, true} {
			for _, otherAnti := range []bool{false, true} {
				a, b := m, m
				c.change(&b)
				a.Anti, b.Anti = anti, otherAnti
				if One(a, b) != c.one || One(b, a) != c.one {
					t.Errorf("%s: One(%v, %v) = %t, %t, want %t", c.name, a, b, One(a, b), One(b, a), c.one)
				}
				want := c.one && anti != otherAnti
				if Twins(a, b) != want || Twins(b, a) != want {
					t.Errorf("%s: Twins(%v, %v) = %t, %t, want %t", c.name, a, b, Twins(a, b), Twins(b, a), want)
				}
			}
		}
	}
}

// P2.1: at every pair of edges One is From and Uid, and nothing else.
func TestOneAtAllEdges(t *testing.T) {
	l := risingMessages()
	for _, a := range l {
		for _, b := range l {
			want := a.Key.From == b.Key.From && a.Uid == b.Uid
			if One(a, b) != want || Twins(a, b) != (want && a.Anti != b.Anti) {
				t.Fatalf("One(%v, %v) = %t, Twins = %t", a, b, One(a, b), Twins(a, b))
			}
		}
	}
}

// P2.1 and P2.3: Twin turns Anti alone about; a twin's twin is the message, and the two are twins.
func TestTwin(t *testing.T) {
	l := append(risingMessages(), api.Message{}, api.Message{Anti: true})
	for _, m := range l {
		want := m
		want.Anti = !m.Anti
		got := Twin(m)
		if got != want {
			t.Fatalf("Twin(%v) = %v", m, got)
		}
		if Twin(got) != m {
			t.Fatalf("the twin of the twin of %v is %v", m, Twin(got))
		}
		if !Twins(m, got) || !Twins(got, m) || !One(m, got) || Twins(m, m) {
			t.Fatalf("%v and %v must be twins", m, got)
		}
	}
}

// P2.1: Check, each field at its edges, the others as they may be.
func TestCheck(t *testing.T) {
	good := api.Message{Key: key(5, 3, 2), To: 4, Value: 9, Uid: 7}
	for _, c := range []struct {
		name string
		m    api.Message
		want api.Errno
	}{
		{"ordinary", good, api.OK},
		{"an anti-message", Twin(good), api.OK},
		{"all 0", api.Message{}, api.OK},
		{"all at their lower ends", api.Message{Key: key(0, api.Outside, 0), Value: math.MinInt64}, api.OK},
		{"all at their upper ends", api.Message{Key: key(api.MaxTime, 15, math.MaxInt), To: 15, Value: math.MaxInt64, Uid: math.MaxInt, Anti: true}, api.OK},

		{"Time -1", api.Message{Key: key(-1, 0, 0)}, api.ErrArg},
		{"Time Never", api.Message{Key: key(api.Never, 0, 0)}, api.ErrArg},
		{"the first int64", api.Message{Key: key(math.MinInt64, 0, 0)}, api.ErrArg},
		{"the last int64", api.Message{Key: key(math.MaxInt64, 0, 0)}, api.ErrArg},
		{"From -2", api.Message{Key: key(0, -2, 0)}, api.ErrArg},
		{"From 16", api.Message{Key: key(0, 16, 0)}, api.ErrArg},
		{"From the first int", api.Message{Key: key(0, math.MinInt, 0)}, api.ErrArg},
		{"From the last int", api.Message{Key: key(0, math.MaxInt, 0)}, api.ErrArg},
		{"Seq -1", api.Message{Key: key(0, 0, -1)}, api.ErrArg},
		{"Seq the first int", api.Message{Key: key(0, 0, math.MinInt)}, api.ErrArg},
		{"Uid -1", api.Message{Uid: -1}, api.ErrArg},
		{"Uid the first int", api.Message{Uid: math.MinInt}, api.ErrArg},
		{"To -1", api.Message{To: -1}, api.ErrArg},
		{"To 16", api.Message{To: 16}, api.ErrArg},
		{"To the first int", api.Message{To: math.MinInt}, api.ErrArg},
		{"To the last int", api.Message{To: math.MaxInt}, api.ErrArg},
		{"all wrong", api.Message{Key: key(-1, -2, -1), To: -1, Uid: -1, Anti: true}, api.ErrArg},
	} {
		if got := Check(c.m); got != c.want {
			t.Errorf("%s: Check(%v) = %d, want %d", c.name, c.m, got, c.want)
		}
	}
}

// P2.1: Check at all edges of all fields together.
func TestCheckAtAllEdges(t *testing.T) {
	for _, k := range risingKeys() {
		for _, to := range froms() {
			for _, uid := range numbers() {
				want := api.OK
				if k.Time < 0 || k.Time > api.MaxTime || k.From < -1 || k.From > 15 || k.Seq < 0 || uid < 0 || to < 0 || to > 15 {
					want = api.ErrArg
				}
				m := api.Message{Key: k, To: to, Uid: uid}
				if got := Check(m); got != want {
					t.Fatalf("Check(%v) = %d, want %d", m, got, want)
				}
			}
		}
	}
}

// P2.2: Sorted at ordinary lists, at the edges, and at messages that may not be.
func TestSorted(t *testing.T) {
	a := api.Message{Key: key(1, 0, 5), Uid: 1}
	b := api.Message{Key: key(1, 1, 0), Uid: 1}
	c := api.Message{Key: key(1, 1, 0), Uid: 2}
	first := api.Message{Key: key(math.MinInt64, math.MinInt, math.MinInt), Uid: math.MinInt}
	last := api.Message{Key: key(math.MaxInt64, math.MaxInt, math.MaxInt), Uid: math.MaxInt}
	for _, x := range []struct{ l, want []api.Message }{
		{nil, nil},
		{[]api.Message{}, nil},
		{[]api.Message{a}, []api.Message{a}},
		{[]api.Message{a, b, c}, []api.Message{a, b, c}},
		{[]api.Message{c, b, a}, []api.Message{a, b, c}},
		{[]api.Message{b, c, a}, []api.Message{a, b, c}},
		{[]api.Message{a, a, a}, []api.Message{a, a, a}},
		{[]api.Message{b, a, b}, []api.Message{a, b, b}},
		{[]api.Message{last, a, first}, []api.Message{first, a, last}},
		{[]api.Message{b, Twin(b), a}, []api.Message{a, b, Twin(b)}},
		{[]api.Message{Twin(b), b, a}, []api.Message{a, Twin(b), b}},
	} {
		if got := Sorted(x.l); !slices.Equal(got, x.want) {
			t.Errorf("Sorted(%v) = %v, want %v", x.l, got, x.want)
		}
	}
}

// P2.2: of all edges Sorted makes the list that rises.
func TestSortedAtAllEdges(t *testing.T) {
	want := risingMessages()
	backwards := slices.Clone(want)
	slices.Reverse(backwards)
	for _, l := range [][]api.Message{want, backwards, shuffled(want, 7), shuffled(want, 211)} {
		if got := Sorted(l); !slices.Equal(got, want) {
			t.Fatalf("Sorted of %d messages does not rise", len(l))
		}
	}
}

// P2.2: messages that are the same in the order stand as they stood, in short lists and in long ones.
func TestSortedLeavesTheSameAsTheyStood(t *testing.T) {
	for _, n := range []int{2, 3, 11, 12, 13, 40, 1000, api.MaxQueue} {
		l := make([]api.Message, n)
		for i := range l {
			// Value, To and Anti tell apart what the order does not; few keys stand for many messages.
			l[i] = api.Message{Key: key(int64(i*7%3), i*5%2-1, i*3%2), Uid: i % 2, To: (n - i) % 16, Value: int64(i), Anti: i%3 == 0}
		}
		got := Sorted(l)
		if len(got) != n {
			t.Fatalf("Sorted of %d messages has %d", n, len(got))
		}
		seen := make([]bool, n)
		for i, m := range got {
			if l[m.Value] != m || seen[m.Value] {
				t.Fatalf("%d messages: %v was not there, or is there twice", n, m)
			}
			seen[m.Value] = true
			if i == 0 {
				continue
			}
			p := got[i-1]
			if Before(m, p) {
				t.Fatalf("%d messages: %v stands behind %v", n, m, p)
			}
			if p.Key == m.Key && p.Uid == m.Uid && p.Value > m.Value {
				t.Fatalf("%d messages: %v and %v do not stand as they stood", n, p, m)
			}
		}
	}
}

// P4: what is handed in stays as it was, and the answer shares no memory with it, not even behind its end.
func TestSortedIsNewMemory(t *testing.T) {
	late, soon := api.Message{Key: key(9, 0, 0)}, api.Message{Key: key(1, 0, 0)}
	for _, l := range [][]api.Message{{}, {soon}, {soon, late}, {late, soon}, {soon, soon}} {
		room := append(slices.Clone(l), late, late)
		given := room[:len(l)]
		got := Sorted(given)
		for i := range got {
			got[i].Value = 77
		}
		_ = append(got, api.Message{Value: 88})
		if want := append(slices.Clone(l), late, late); !slices.Equal(room, want) {
			t.Errorf("Sorted(%v) left %v, want %v", l, room, want)
		}
	}
}

// P2.2: Place, of lists that are sorted and of such as are not.
func TestPlace(t *testing.T) {
	a := api.Message{Key: key(1, 0, 5), Uid: 1}
	b := api.Message{Key: key(1, 1, 0), Uid: 1}
	c := api.Message{Key: key(1, 1, 0), Uid: 2}
	first := api.Message{Key: key(math.MinInt64, math.MinInt, math.MinInt), Uid: math.MinInt}
	last := api.Message{Key: key(math.MaxInt64, math.MaxInt, math.MaxInt), Uid: math.MaxInt}
	for _, x := range []struct {
		l    []api.Message
		m    api.Message
		want int
	}{
		{nil, a, 0},
		{[]api.Message{}, a, 0},
		{[]api.Message{a}, a, 0},
		{[]api.Message{a}, Twin(a), 0},
		{[]api.Message{a}, b, 1},
		{[]api.Message{b}, a, 0},
		{[]api.Message{a, b, c}, a, 0},
		{[]api.Message{a, b, c}, b, 1},
		{[]api.Message{a, b, c}, c, 2},
		{[]api.Message{a, b, c}, first, 0},
		{[]api.Message{a, b, c}, last, 3},
		{[]api.Message{a, a, b, b, c}, b, 2},
		{[]api.Message{first, last}, a, 1},
		{[]api.Message{first, first, last}, first, 0},
		{[]api.Message{first, last, last}, last, 1},
		{[]api.Message{c, b, a}, c, 2},
		{[]api.Message{c, a, b}, b, 1},
		{[]api.Message{last, a, first}, b, 2},
	} {
		l := slices.Clone(x.l)
		if got := Place(l, x.m); got != x.want {
			t.Errorf("Place(%v, %v) = %d, want %d", x.l, x.m, got, x.want)
		}
		if !slices.Equal(l, x.l) {
			t.Errorf("Place changed %v to %v", x.l, l)
		}
	}
}

// P2.2: of all edges, sorted or not, Place is the place in the list that rises.
func TestPlaceAtAllEdges(t *testing.T) {
	rising := risingMessages()
	mixed := shuffled(rising, 211)
	for i, m := range rising {
		if Place(rising, m) != i || Place(mixed, m) != i || Place(rising, Twin(m)) != i {
			t.Fatalf("Place of %v is %d, %d, %d, want %d", m, Place(rising, m), Place(mixed, m), Place(rising, Twin(m)), i)
		}
	}
}
