package link

import (
	"math"
	"slices"
	"strconv"
	"testing"

	"isochron/api"
)

// answer is what Peek and Take answer.
type answer struct {
	p api.Parcel
	e api.Errno
}

func answered(p api.Parcel, e api.Errno) answer { return answer{p: p, e: e} }

// linkOf is the link of these tests.
func linkOf(isLoose bool) api.Link { return api.Link{From: 2, To: 3, Look: 1, Loose: isLoose} }

// parcel is one of the link of these tests, at that time, with that Uid.
func parcel(time int64, uid int) api.Parcel {
	return api.Parcel{M: api.Message{Key: api.Key{Time: time, From: 2, Seq: uid}, To: 3, Value: int64(-uid), Uid: uid}, Colour: uid % 2}
}

// anti is the twin of that parcel.
func anti(time int64, uid int) api.Parcel {
	p := parcel(time, uid)
	p.M.Anti = true
	return p
}

// parcels are n of them, each with a time of its own, not in the order of times.
func parcels(n int) []api.Parcel {
	var l []api.Parcel
	for i := range n {
		l = append(l, parcel(int64((i*7+3)%(n+1)+10), i))
	}
	return l
}

// both is a way and its second reading, which are called alike.
type both struct {
	t     *testing.T
	way   *Way
	plain *plain
}

// bothOf is a way with room for so many, into which l was put one by one.
func bothOf(t *testing.T, isLoose bool, most int, l ...api.Parcel) both {
	t.Helper()
	w, e := New(linkOf(isLoose), most)
	if w == nil || e != api.OK {
		t.Fatalf("New with room for %d: %v, %d", most, w, e)
	}
	b := both{t: t, way: w, plain: &plain{link: linkOf(isLoose), most: most}}
	b.check()
	b.putAll(l...)
	return b
}

// filled is a way with room for most of which so many are there; those above most are anti-messages.
func filled(t *testing.T, isLoose bool, most, count int) both {
	t.Helper()
	b := bothOf(t, isLoose, most, parcels(min(most, count))...)
	for i := most; i < count; i++ {
		b.putAll(anti(int64(5+i%3), i))
	}
	return b
}

func (b both) put(p api.Parcel) api.Errno {
	b.t.Helper()
	got, want := b.way.Put(p), b.plain.put(p)
	if got != want {
		b.t.Fatalf("Put(%v) behind %d of %d: %d, want %d", p, len(b.plain.l), b.plain.most, got, want)
	}
	return got
}

func (b both) putAll(l ...api.Parcel) {
	b.t.Helper()
	for _, p := range l {
		if e := b.put(p); e != api.OK {
			b.t.Fatalf("Put(%v): %d", p, e)
		}
	}
}

func (b both) peek(n int) answer {
	b.t.Helper()
	got, want := answered(b.way.Peek(n)), b.plain.peek(n)
	if got != want {
		b.t.Fatalf("Peek(%d) of %d: %v, want %v", n, len(b.plain.l), got, want)
	}
	return got
}

func (b both) take(n int) answer {
	b.t.Helper()
	count := len(b.plain.l)
	got, want := answered(b.way.Take(n)), b.plain.take(n)
	if got != want {
		b.t.Fatalf("Take(%d) of %d: %v, want %v", n, count, got, want)
	}
	return got
}

// checkFew holds what the way tells of itself, but for its parcels, against the second reading.
func (b both) checkFew() {
	b.t.Helper()
	if w, p := b.way, b.plain; w.Len() != len(p.l) || w.Room() != p.room() || w.Least() != p.least() {
		b.t.Fatalf("Len %d, Room %d, Least %d; want %d, %d, %d", w.Len(), w.Room(), w.Least(), len(p.l), p.room(), p.least())
	}
}

// check holds all that the way tells of itself against the second reading, twice, as telling changes nothing.
func (b both) check() {
	b.t.Helper()
	for range 2 {
		b.checkFew()
		if got := b.way.All(); !slices.Equal(got, b.plain.l) {
			b.t.Fatalf("All: %v, want %v", got, b.plain.l)
		}
	}
}

// checkTakes takes all parcels off the way; they come out in the order in which they went in, if it is not Loose.
func (b both) checkTakes() {
	b.t.Helper()
	for i, want := range slices.Clone(b.plain.l) {
		got := b.take(i*i - 7)
		if !b.plain.link.Loose && got != (answer{p: want}) {
			b.t.Fatalf("the parcel %d: %v, want %v", i, got, want)
		}
		b.checkFew()
	}
	if got := b.take(0); got != (answer{e: 6}) {
		b.t.Fatalf("behind all: %v", got)
	}
	b.check()
}

// each tries a test on both kinds of links.
func each(t *testing.T, try func(t *testing.T, isLoose bool)) {
	t.Helper()
	for _, isLoose := range []bool{false, true} {
		t.Run("Loose "+strconv.FormatBool(isLoose), func(t *testing.T) { try(t, isLoose) })
	}
}

// asked are the numbers that a parcel of so many is asked for with: those around 0, around as many as there are, around less that many, around twice as many, and the ends.
func asked(count int) []int {
	l := []int{math.MinInt, math.MinInt + 1, math.MaxInt - 1, math.MaxInt}
	for _, n := range []int{0, count, -count, 2 * count, -2 * count} {
		l = append(l, n-1, n, n+1)
	}
	return l
}
