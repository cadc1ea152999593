package link

import (
	"slices"
	"testing"

	"isochron/api"
	"isochron/draw"
)

// chance is a row of numbers that hang on a seed.
type chance struct {
	seed uint64
	n    int
}

func (c *chance) below(k int) int {
	c.n++
	return int(draw.Below(c.seed, 0, c.n, int64(k)))
}

// spread is how far apart the parcels of a play are, and in how many of a hundred an anti-message comes.
type spread struct {
	times, uids, antis int
}

func spreads() []spread {
	return []spread{{1, 3, 5}, {4, 10, 30}, {100, 1000, 60}, {1 << 40, 1 << 40, 20}}
}

// parcel is one that may go on the link; a few are such that may not.
func (c *chance) parcel(s spread) api.Parcel {
	p := parcel(int64(c.below(s.times)), c.below(s.uids))
	p.M.Key.Seq, p.M.Value, p.M.Anti, p.Colour = c.below(4), int64(c.below(9)-4), c.below(100) < s.antis, c.below(2)
	if c.below(12) == 0 {
		bad := wrong()
		anti := p.M.Anti
		p = bad[c.below(len(bad))]
		p.M.Anti = anti
	}
	if c.below(50) == 0 {
		p.M.Key.Time = []int64{0, api.MaxTime, api.Never, -1}[c.below(4)]
	}
	return p
}

// number is one that a parcel of so many is asked for with.
func (c *chance) number(count int) int {
	switch c.below(3) {
	case 0:
		return c.below(2*count+5) - count
	case 1:
		l := asked(count)
		return l[c.below(len(l))]
	}
	return c.below(1<<62) - c.below(1<<62)
}

// step makes one call of b, and tells how it ended; puts is how many of a hundred calls are a Put.
func (c *chance) step(b both, s spread, puts int) answer {
	b.t.Helper()
	p, n := c.parcel(s), c.number(len(b.plain.l))
	switch {
	case c.below(100) < puts:
		return answer{e: b.put(p)}
	case c.below(4) == 0:
		return b.peek(n)
	case c.below(4) == 0:
		if one, two := b.peek(n), b.peek(n); one != two {
			b.t.Fatalf("Peek: %v, then %v", one, two)
		}
	}
	return b.take(n)
}

// play makes so many calls; behind some hundreds of them the way rather fills than empties, or the other way round.
func (c *chance) play(b both, s spread, steps int, ends map[api.Errno]int) {
	b.t.Helper()
	puts := 60
	for i := range steps {
		if i%200 == 0 {
			puts = 30 + c.below(50)
		}
		ends[c.step(b, s, puts).e]++
		b.checkFew()
		if i%16 == 0 {
			b.check()
		}
	}
	b.check()
	b.checkTakes()
}

// P11.1 to P11.4: long plays of all calls, held against the second reading.
func TestPlays(t *testing.T) {
	each(t, func(t *testing.T, isLoose bool) {
		ends := map[api.Errno]int{}
		for seed := range uint64(6) {
			for _, s := range spreads() {
				for _, most := range []int{1, 2, 7, 60, 1024} {
					(&chance{seed: seed}).play(bothOf(t, isLoose, most), s, 2000, ends)
				}
			}
		}
		for _, e := range []api.Errno{api.OK, api.ErrArg, api.ErrNone, api.ErrFull} {
			if ends[e] < 1000 {
				t.Errorf("only %d calls ended with %d", ends[e], e)
			}
		}
	})
}

// P11.1 to P11.4: plays around as many parcels as a link may have.
func TestPlaysAtTheLimit(t *testing.T) {
	each(t, func(t *testing.T, isLoose bool) {
		ends := map[api.Errno]int{}
		for seed := range uint64(4) {
			b := bothOf(t, isLoose, 1024, parcels(1024)...)
			(&chance{seed: seed}).play(b, spread{times: 5000, uids: 5000, antis: 20}, 1500, ends)
		}
		for _, e := range []api.Errno{api.OK, api.ErrFull} {
			if ends[e] < 200 {
				t.Errorf("only %d calls ended with %d", ends[e], e)
			}
		}
	})
}

// P11.4: over long plays each parcel that went in comes out once, of a link that is not Loose in the order in which they went in. No second reading is asked here: each parcel has a Uid of its own, and those rise.
func TestOutAsIn(t *testing.T) {
	each(t, func(t *testing.T, isLoose bool) {
		for seed := range uint64(10) {
			c := &chance{seed: seed}
			w, _ := New(linkOf(isLoose), 50)
			var in, out []api.Parcel
			for i := range 4000 {
				p := parcel(int64(c.below(20)), i)
				p.M.Anti = c.below(4) == 0
				if c.below(100) < 55 && w.Put(p) == api.OK {
					in = append(in, p)
				}
				n := c.number(w.Len())
				w.Peek(n)
				if c.below(2) == 0 {
					out = appended(out, w, n)
				}
			}
			if len(in) < 1500 || len(in)-len(out) != w.Len() {
				t.Errorf("seed %d: %d went in, %d came out, %d are there", seed, len(in), len(out), w.Len())
			}
			for w.Len() > 0 {
				out = appended(out, w, c.number(w.Len()))
			}
			if isLoose {
				slices.SortFunc(out, func(a, b api.Parcel) int { return a.M.Uid - b.M.Uid })
			}
			if !slices.Equal(in, out) {
				t.Errorf("seed %d: %d went in, %d came out, not the same", seed, len(in), len(out))
			}
		}
	})
}

// appended is l with the parcel that w gives for n, if it gives one.
func appended(l []api.Parcel, w *Way, n int) []api.Parcel {
	p, e := w.Take(n)
	if e != api.OK {
		return l
	}
	return append(l, p)
}

// P5: what is answered hangs on the calls alone: the same play, once more, answers the same.
func TestThePlayOnceMore(t *testing.T) {
	each(t, func(t *testing.T, isLoose bool) {
		for seed := range uint64(20) {
			one, two := &chance{seed: seed}, &chance{seed: seed}
			a, b := bothOf(t, isLoose, 20), bothOf(t, isLoose, 20)
			for i := range 300 {
				x, y := one.step(a, spreads()[2], 55), two.step(b, spreads()[2], 55)
				if x != y || !slices.Equal(a.way.All(), b.way.All()) {
					t.Fatalf("seed %d, call %d: %v, %v", seed, i, x, y)
				}
			}
		}
	})
}
