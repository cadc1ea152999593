package vtime

import (
	"math"
	"math/big"
	"slices"
	"testing"

	"isochron/api"
)

// edges are the numbers at which the document changes what is answered, their neighbours, and the ends of int64; they rise.
func edges() []int64 {
	return []int64{
		math.MinInt64, math.MinInt64 + 1, -api.Never - 1, -api.Never, -api.MaxTime, -5, -2, -1,
		0, 1, 2, 3, 7, 10, 1000, 1<<31 - 1, 1 << 31, 1 << 32, 1<<61 - 1, 1 << 61, 1<<61 + 1,
		api.MaxTime - 1, api.MaxTime, api.Never, api.Never + 1, math.MaxInt64 - 1, math.MaxInt64,
	}
}

// exactSum holds the sums of the package against numbers that can't wrap round.
func exactSum(t, d int64) *big.Int {
	return new(big.Int).Add(big.NewInt(t), big.NewInt(d))
}

func TestEdgesRise(t *testing.T) {
	if l := edges(); !slices.IsSorted(l) {
		t.Fatalf("edges must rise: %d", l)
	}
}

// P1.1: Valid.
func TestValid(t *testing.T) {
	for _, c := range []struct {
		t    int64
		want bool
	}{
		{0, true}, {1, true}, {12345, true}, {1 << 61, true}, {api.MaxTime - 1, true}, {api.MaxTime, true},
		{-1, false}, {-api.MaxTime, false}, {api.Never, false}, {api.Never + 1, false},
		{math.MinInt64, false}, {math.MaxInt64, false},
	} {
		if got := Valid(c.t); got != c.want {
			t.Errorf("Valid(%d) = %t, want %t", c.t, got, c.want)
		}
	}
}

// P1.1: Add, and P2: ErrArg is named ahead of ErrTime, and beside an error the sum is 0.
func TestAdd(t *testing.T) {
	for _, c := range []struct {
		t, d, want int64
		e          api.Errno
	}{
		{5, 3, 8, api.OK},
		{0, 0, 0, api.OK},
		{0, 1, 1, api.OK},
		{1, 0, 1, api.OK},
		{0, api.MaxTime, api.MaxTime, api.OK},
		{api.MaxTime, 0, api.MaxTime, api.OK},
		{api.MaxTime - 1, 1, api.MaxTime, api.OK},
		{1, api.MaxTime - 1, api.MaxTime, api.OK},
		{1 << 61, 1<<61 - 1, api.MaxTime, api.OK},

		{api.MaxTime, 1, 0, api.ErrTime},
		{1, api.MaxTime, 0, api.ErrTime},
		{0, api.Never, 0, api.ErrTime},
		{1 << 61, 1 << 61, 0, api.ErrTime},
		{api.MaxTime, api.MaxTime, 0, api.ErrTime},
		{0, math.MaxInt64, 0, api.ErrTime},
		{1, math.MaxInt64, 0, api.ErrTime},
		{api.MaxTime, math.MaxInt64, 0, api.ErrTime},

		{-1, 1, 0, api.ErrArg},
		{-1, 0, 0, api.ErrArg},
		{1, -1, 0, api.ErrArg},
		{0, -1, 0, api.ErrArg},
		{-1, -1, 0, api.ErrArg},
		{api.Never, 0, 0, api.ErrArg},
		{api.Never, -1, 0, api.ErrArg},
		{api.Never, 1, 0, api.ErrArg},
		{math.MaxInt64, math.MaxInt64, 0, api.ErrArg},
		{-1, math.MaxInt64, 0, api.ErrArg},
		{api.MaxTime, math.MinInt64, 0, api.ErrArg},
		{math.MinInt64, math.MaxInt64, 0, api.ErrArg},
		{math.MinInt64, math.MinInt64, 0, api.ErrArg},
	} {
		if got, e := Add(c.t, c.d); got != c.want || e != c.e {
			t.Errorf("Add(%d, %d) = %d, %d, want %d, %d", c.t, c.d, got, e, c.want, c.e)
		}
	}
}

// P1.1 and P1.2: at every pair of edges Add is exact, or refused just as the document says; what it answers, less d, is t.
func TestAddAtAllEdges(t *testing.T) {
	last := big.NewInt(api.MaxTime)
	for _, a := range edges() {
		for _, d := range edges() {
			sum := exactSum(a, d)
			want, wantErr := int64(0), api.OK
			switch {
			case a < 0 || a > api.MaxTime || d < 0:
				wantErr = api.ErrArg
			case sum.Cmp(last) > 0:
				wantErr = api.ErrTime
			default:
				want = sum.Int64()
			}
			got, e := Add(a, d)
			if got != want || e != wantErr {
				t.Errorf("Add(%d, %d) = %d, %d, want %d, %d", a, d, got, e, want, wantErr)
			}
			if e == api.OK && (got-d != a || !Valid(got)) {
				t.Errorf("Add(%d, %d) = %d: undone it is %d", a, d, got, got-d)
			}
		}
	}
}

// P1.1: Reach.
func TestReach(t *testing.T) {
	for _, c := range []struct{ t, d, want int64 }{
		{5, 3, 8},
		{0, 0, 0},
		{0, 1, 1},
		{7, 0, 7},
		{api.MaxTime, 0, api.MaxTime},
		{api.MaxTime - 1, 1, api.MaxTime},
		{api.MaxTime, 1, api.Never},
		{api.MaxTime, 9, api.Never},
		{1 << 61, 1<<61 - 1, api.MaxTime},
		{1 << 61, 1 << 61, api.Never},
		{0, api.MaxTime, api.MaxTime},
		{0, api.Never, api.Never},
		{0, math.MaxInt64, api.Never},
		{1, math.MaxInt64, api.Never},
		{api.MaxTime, math.MaxInt64, api.Never},

		{api.Never, 0, api.Never},
		{api.Never, 1, api.Never},
		{api.Never, -1, api.Never},
		{api.Never, math.MaxInt64, api.Never},
		{api.Never + 1, 0, api.Never},
		{math.MaxInt64, 0, api.Never},
		{math.MaxInt64, math.MaxInt64, api.Never},
		{math.MaxInt64, math.MinInt64, api.Never},

		{-5, 3, 3},
		{-1, 0, 0},
		{-1, -1, 0},
		{math.MinInt64, 4, 4},
		{math.MinInt64, math.MinInt64, 0},
		{math.MinInt64, math.MaxInt64, api.Never},
		{5, -3, 5},
		{0, -1, 0},
		{api.MaxTime, -1, api.MaxTime},
		{api.MaxTime, math.MinInt64, api.MaxTime},
	} {
		if got := Reach(c.t, c.d); got != c.want {
			t.Errorf("Reach(%d, %d) = %d, want %d", c.t, c.d, got, c.want)
		}
	}
}

// P1.1: at every pair of edges Reach is the exact sum of what t and d count as, at most Never.
func TestReachAtAllEdges(t *testing.T) {
	never := big.NewInt(api.Never)
	for _, a := range edges() {
		for _, d := range edges() {
			sum := exactSum(max(a, 0), max(d, 0))
			if sum.Cmp(never) > 0 {
				sum = never
			}
			if got := Reach(a, d); got != sum.Int64() {
				t.Errorf("Reach(%d, %d) = %d, want %d", a, d, got, sum)
			}
		}
	}
}

// P1.2: Reach never falls as t or d rise.
func TestReachNeverFalls(t *testing.T) {
	l := edges()
	for _, fixed := range l {
		for i := range l[1:] {
			low, high := l[i], l[i+1]
			if Reach(low, fixed) > Reach(high, fixed) {
				t.Errorf("Reach falls as t rises from %d to %d, d = %d", low, high, fixed)
			}
			if Reach(fixed, low) > Reach(fixed, high) {
				t.Errorf("Reach falls as d rises from %d to %d, t = %d", low, high, fixed)
			}
		}
	}
}

// P1.1: Least.
func TestLeast(t *testing.T) {
	for _, c := range []struct {
		l    []int64
		want int64
	}{
		{nil, api.Never},
		{[]int64{}, api.Never},
		{[]int64{5}, 5},
		{[]int64{0}, 0},
		{[]int64{5, 3, 4}, 3},
		{[]int64{3, 4, 5}, 3},
		{[]int64{5, 4, 3}, 3},
		{[]int64{4, 4, 4}, 4},
		{[]int64{api.MaxTime}, api.MaxTime},
		{[]int64{api.Never, api.MaxTime}, api.MaxTime},
		{[]int64{api.Never}, api.Never},
		{[]int64{api.Never + 1}, api.Never},
		{[]int64{math.MaxInt64}, api.Never},
		{[]int64{math.MaxInt64, api.Never + 1, math.MaxInt64 - 1}, api.Never},
		{[]int64{math.MaxInt64, 7, api.Never}, 7},
		{[]int64{0, -1}, -1},
		{[]int64{-5}, -5},
		{[]int64{math.MinInt64}, math.MinInt64},
		{[]int64{math.MaxInt64, math.MinInt64, 0}, math.MinInt64},
	} {
		if got := Least(c.l...); got != c.want {
			t.Errorf("Least(%d) = %d, want %d", c.l, got, c.want)
		}
	}
	if got := Least(); got != api.Never {
		t.Errorf("Least() = %d, want Never", got)
	}
}

// P1.2: Least is one of them, or Never, and none is below it; P4: what is handed in stays as it was.
func TestLeastIsOneOfThem(t *testing.T) {
	for _, a := range edges() {
		for _, b := range edges() {
			for _, c := range edges() {
				l := []int64{a, b, c}
				got := Least(l...)
				if got != api.Never && !slices.Contains(l, got) {
					t.Fatalf("Least(%d, %d, %d) = %d: none of them, nor Never", a, b, c, got)
				}
				if slices.Min(l) < got || got > api.Never {
					t.Fatalf("Least(%d, %d, %d) = %d: too late", a, b, c, got)
				}
				if !slices.Equal(l, []int64{a, b, c}) {
					t.Fatalf("Least(%d, %d, %d) changed what was handed in: %d", a, b, c, l)
				}
			}
		}
	}
}

// P1.1: Least reads long lists to their end.
func TestLeastOfLongLists(t *testing.T) {
	l := make([]int64, api.MaxQueue)
	for i := range l {
		l[i] = api.MaxTime - int64(i)
	}
	if got, want := Least(l...), api.MaxTime-int64(len(l)-1); got != want {
		t.Errorf("Least of a falling list = %d, want %d", got, want)
	}
	slices.Reverse(l)
	if got, want := Least(l...), l[0]; got != want {
		t.Errorf("Least of a rising list = %d, want %d", got, want)
	}
}

// P1.1: Steps, and P2: beside an error the count is 0.
func TestSteps(t *testing.T) {
	for _, c := range []struct {
		from, to, width, want int64
		e                     api.Errno
	}{
		{3, 10, 3, 2, api.OK},
		{3, 9, 3, 2, api.OK},
		{3, 8, 3, 1, api.OK},
		{3, 5, 3, 0, api.OK},
		{1, 7, 3, 2, api.OK},
		{0, 0, 1, 0, api.OK},
		{5, 5, 3, 0, api.OK},
		{3, 10, 1, 7, api.OK},
		{0, api.MaxTime, 1, api.MaxTime, api.OK},
		{1, api.MaxTime, 1, api.MaxTime - 1, api.OK},
		{0, api.MaxTime, 2, api.MaxTime / 2, api.OK},
		{0, api.MaxTime, api.MaxTime, 1, api.OK},
		{1, api.MaxTime, api.MaxTime, 0, api.OK},
		{0, api.MaxTime, api.Never, 0, api.OK},
		{0, api.MaxTime, math.MaxInt64, 0, api.OK},
		{api.MaxTime, api.MaxTime, 1, 0, api.OK},

		{0, 10, 0, 0, api.ErrArg},
		{0, 10, -1, 0, api.ErrArg},
		{0, 10, math.MinInt64, 0, api.ErrArg},
		{-1, 10, 1, 0, api.ErrArg},
		{math.MinInt64, 10, 1, 0, api.ErrArg},
		{api.Never, api.Never, 1, 0, api.ErrArg},
		{math.MaxInt64, math.MaxInt64, 1, 0, api.ErrArg},
		{0, api.Never, 1, 0, api.ErrArg},
		{0, math.MaxInt64, 1, 0, api.ErrArg},
		{0, -1, 1, 0, api.ErrArg},
		{-2, -1, 1, 0, api.ErrArg},
		{0, math.MinInt64, 1, 0, api.ErrArg},
		{3, 2, 1, 0, api.ErrArg},
		{10, 3, 3, 0, api.ErrArg},
		{api.MaxTime, 0, 1, 0, api.ErrArg},
		{math.MaxInt64, math.MinInt64, math.MinInt64, 0, api.ErrArg},
		{math.MinInt64, math.MaxInt64, -1, 0, api.ErrArg},
	} {
		if got, e := Steps(c.from, c.to, c.width); got != c.want || e != c.e {
			t.Errorf("Steps(%d, %d, %d) = %d, %d, want %d, %d", c.from, c.to, c.width, got, e, c.want, c.e)
		}
	}
}

// P1.1: at all edges Steps is the greatest number of widths that ends no later than to, or refused.
func TestStepsAtAllEdges(t *testing.T) {
	for _, from := range edges() {
		for _, to := range edges() {
			for _, width := range edges() {
				got, e := Steps(from, to, width)
				if width < 1 || from < 0 || to > api.MaxTime || to < from {
					if got != 0 || e != api.ErrArg {
						t.Fatalf("Steps(%d, %d, %d) = %d, %d, want ErrArg", from, to, width, got, e)
					}
					continue
				}
				rest := new(big.Int).Mul(big.NewInt(got), big.NewInt(width))
				rest.Sub(big.NewInt(to-from), rest)
				if e != api.OK || got < 0 || rest.Sign() < 0 || rest.Cmp(big.NewInt(width)) >= 0 {
					t.Fatalf("Steps(%d, %d, %d) = %d, %d: %d is left", from, to, width, got, e, rest)
				}
			}
		}
	}
}
