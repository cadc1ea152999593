package draw

import (
	"math"
	"math/big"
	"testing"
)

// gamma is what the first step of mixing adds.
const gamma = 0x9E3779B97F4A7C15

// words are numbers at which steps go round or change their bits, their neighbours, every single bit, and the ends of 64 bits.
func words() []uint64 {
	l := []uint64{
		0, 3, 5, 1000, 1234567, 1<<30 - 1, 1<<31 - 1, 1<<32 - 1, 1<<62 - 1, 1<<63 - 1, 1<<63 + 1,
		math.MaxUint64 - 1, math.MaxUint64,
		gamma - 1, gamma, gamma + 1, math.MaxUint64 - gamma, math.MaxUint64 - gamma + 1, math.MaxUint64 - gamma + 2,
		0xBF58476D1CE4E5B9, 0x94D049BB133111EB,
	}
	for bit := range 64 {
		l = append(l, 1<<bit)
	}
	return l
}

// counters are those of which a process or a draw may be the number, numbers below 0, and the ends of int.
func counters() []int {
	return []int{math.MinInt, math.MinInt + 1, -1 << 32, -16, -2, -1, 0, 1, 2, 3, 15, 16, 255, 4096, 1<<31 - 1, 1 << 31, 1 << 32, 1 << 50, math.MaxInt - 1, math.MaxInt}
}

// bounds are those of Below that are at least 1.
func bounds() []int64 {
	return []int64{1, 2, 3, 4, 5, 7, 10, 16, 100, 1000, 1<<31 - 1, 1 << 31, 1<<32 + 1, 1<<62 - 1, 1 << 62, 1<<62 + 1, math.MaxInt64 - 1, math.MaxInt64}
}

// exact is x modulo 2^64, for numbers that can't go round by themselves.
func exact(x *big.Int) *big.Int {
	return x.Mod(x, new(big.Int).Lsh(big.NewInt(1), 64))
}

// exactFold is x xor x / 2^bits, by a division.
func exactFold(x *big.Int, bits uint) *big.Int {
	high := new(big.Int).Div(x, new(big.Int).Lsh(big.NewInt(1), bits))
	return high.Xor(high, x)
}

func exactWord(x uint64) *big.Int { return new(big.Int).SetUint64(x) }

// exactMix is the document's text, step by step.
func exactMix(x *big.Int) *big.Int {
	x = exact(new(big.Int).Add(x, exactWord(gamma)))
	x = exact(new(big.Int).Mul(exactFold(x, 30), exactWord(0xBF58476D1CE4E5B9)))
	x = exact(new(big.Int).Mul(exactFold(x, 27), exactWord(0x94D049BB133111EB)))
	return exactFold(x, 31)
}

func exactAt(seed uint64, self, n int) *big.Int {
	x := exactMix(exactWord(seed))
	x = exactMix(exact(x.Add(x, big.NewInt(int64(self)))))
	return exactMix(exact(x.Add(x, big.NewInt(int64(n)))))
}

// inverse is the number with which an odd x has the product 1.
func inverse(x uint64) uint64 {
	y := x
	for range 6 {
		y *= 2 - x*y
	}
	return y
}

func unfold(y uint64, bits uint) uint64 {
	x := y
	for range 64 / bits {
		x = y ^ x>>bits
	}
	return x
}

// unmix undoes Mix, from its last step back to its first.
func unmix(y uint64) uint64 {
	y = unfold(y, 31) * inverse(0x94D049BB133111EB)
	y = unfold(y, 27) * inverse(0xBF58476D1CE4E5B9)
	return unfold(y, 30) - gamma
}

// P4.1: Mix, at numbers that were reckoned elsewhere; the first is the document's example.
func TestMix(t *testing.T) {
	for _, c := range []struct{ x, want uint64 }{
		{0, 0xE220A8397B1DCDAF},
		{1, 0x910A2DEC89025CC1},
		{2, 0x975835DE1C9756CE},
		{1234567, 0x599ED017FB08FC85},
		{gamma, 0x6E789E6AA1B965F4},
		{0x3C6EF372FE94F82A, 0x06C45D188009454F},
		{1 << 31, 0x25493CC63225736C},
		{1 << 32, 0xC42C5A1AA3820138},
		{1<<63 - 1, 0x2A67D7552E039EA7},
		{1 << 63, 0x481EC0A212A9F3DB},
		{math.MaxUint64, 0xE4D971771B652C20},
		{math.MaxUint64 - 1, 0xF3203E9039F4A821},
		// The sum goes round just to 0, and just not.
		{0x61C8864680B583EB, 0},
		{0x61C8864680B583EA, 0xB4D055FCF2CBBD7B},
	} {
		if got := Mix(c.x); got != c.want {
			t.Errorf("Mix(%X) = %X, want %X", c.x, got, c.want)
		}
	}
}

// P4.1: at all edges Mix is what the document's text comes to in numbers that can't go round.
func TestMixAtAllEdges(t *testing.T) {
	for _, x := range words() {
		want := exactMix(exactWord(x)).Uint64()
		if got := Mix(x); got != want {
			t.Errorf("Mix(%X) = %X, want %X", x, got, want)
		}
	}
}

// P4.1: At, at numbers that were reckoned elsewhere: seed, self and n have each a place of their own.
func TestAt(t *testing.T) {
	for _, c := range []struct {
		seed    uint64
		self, n int
		want    uint64
	}{
		{0, 0, 0, 0x238275BC38FCBE91},
		{5, 1, 2, 0xF4E7902936F67A15},
		{5, 2, 1, 0xD5C3DB6560A3C772},
		{1, 5, 2, 0xD8CE878C44A41D2E},
		{2, 1, 5, 0x3D7BC0C69F770F6A},
		{7, 15, 4096, 0x86C7815065C28156},
		{1 << 63, -2, 3, 0xCDFC75701EA328D7},
		{0, -1, 0, 0x44E5B98100C67FB0},
		{0, 0, -1, 0x2F32A78496C67C60},
		{0, -1, -1, 0x09F578552C7B118D},
		{math.MaxUint64, 0, 0, 0xFC042709560421DA},
		{math.MaxUint64, math.MaxInt64, math.MaxInt64, 0x9F741A1223250B5E},
		{math.MaxUint64, math.MinInt64, math.MinInt64, 0x1FDA050C967ED141},
		{0, math.MaxInt64, math.MinInt64, 0x619C7B515CAD8FE7},
	} {
		if got := At(c.seed, c.self, c.n); got != c.want {
			t.Errorf("At(%X, %d, %d) = %X, want %X", c.seed, c.self, c.n, got, c.want)
		}
	}
}

// P4.1: both sums of At go round modulo 2^64 where they come just to 2^64, and where a number below 0 just takes all away.
func TestAtGoesRound(t *testing.T) {
	back := -int(int64(Mix(0)))
	for _, self := range []int{-1, -5, 1, 5, math.MaxInt, math.MinInt} {
		seed := unmix(-uint64(self))
		if got := At(seed, self, back); got != Mix(0) {
			t.Errorf("At(%X, %d, %d) = %X, want Mix(0)", seed, self, back, got)
		}
	}
}

// P4.1: at all edges At is what the document's text comes to in numbers that can't go round.
func TestAtAtAllEdges(t *testing.T) {
	for _, seed := range words() {
		for _, self := range counters() {
			for _, n := range counters() {
				want := exactAt(seed, self, n).Uint64()
				if got := At(seed, self, n); got != want {
					t.Fatalf("At(%X, %d, %d) = %X, want %X", seed, self, n, got, want)
				}
			}
		}
	}
}

// P4.1: Below, at numbers that were reckoned elsewhere, some of draws at which an int64 would be below 0.
func TestBelow(t *testing.T) {
	for _, c := range []struct {
		seed    uint64
		self, n int
		k, want int64
	}{
		{5, 1, 2, 1000, 573},
		{5, 1, 2, 7, 5},
		{5, 1, 2, 3, 2},
		{5, 1, 2, math.MaxInt64, 8423860134709983766},
		{0, 0, 0, 10, 3},
		{0, 0, 0, 2, 1},
		{0, 0, 0, 1 << 62, 2558736989570252433},
		{0, 0, 0, math.MaxInt64, 2558736989570252433},
		{7, 15, 4096, 6, 2},
		{math.MaxUint64, math.MinInt64, math.MinInt64, 100, 61},
		{5, 1, 2, 1, 0},
		{5, 1, 2, 0, 0},
		{5, 1, 2, -1, 0},
		{5, 1, 2, -1000, 0},
		{5, 1, 2, math.MinInt64 + 1, 0},
		{5, 1, 2, math.MinInt64, 0},
	} {
		if got := Below(c.seed, c.self, c.n, c.k); got != c.want {
			t.Errorf("Below(%X, %d, %d, %d) = %d, want %d", c.seed, c.self, c.n, c.k, got, c.want)
		}
	}
}

// P4.1 and P4.2: at all edges Below is the rest of At, 0 to k - 1; 0 for every k below 1.
func TestBelowAtAllEdges(t *testing.T) {
	for _, seed := range []uint64{0, 1, 5, 1 << 63, math.MaxUint64} {
		for _, self := range counters() {
			for _, n := range counters() {
				draw := exactAt(seed, self, n)
				for _, k := range bounds() {
					want := new(big.Int).Mod(draw, big.NewInt(k)).Int64()
					got := Below(seed, self, n, k)
					if got != want || got < 0 || got >= k {
						t.Fatalf("Below(%X, %d, %d, %d) = %d, want %d", seed, self, n, k, got, want)
					}
				}
				for _, k := range []int64{0, -1, -2, -1 << 31, -1 << 62, -math.MaxInt64, math.MinInt64} {
					if got := Below(seed, self, n, k); got != 0 {
						t.Fatalf("Below(%X, %d, %d, %d) = %d, want 0", seed, self, n, k, got)
					}
				}
			}
		}
	}
}

// P4.2: Below is 0 to k - 1, and all of these are drawn.
func TestBelowDrawsAll(t *testing.T) {
	for k := int64(1); k <= 20; k++ {
		seen := make([]int, k)
		for n := range 1000 {
			got := Below(9, 3, n, k)
			if got < 0 || got >= k {
				t.Fatalf("Below(9, 3, %d, %d) = %d", n, k, got)
			}
			seen[got]++
		}
		for x, times := range seen {
			if times == 0 {
				t.Errorf("%d is never drawn below %d", x, k)
			}
		}
	}
}

// checkUndone holds Mix against unmix, both ways round: that there is a way back from every number makes Mix one to one.
func checkUndone(t *testing.T, x uint64) {
	t.Helper()
	if got := unmix(Mix(x)); got != x {
		t.Fatalf("Mix(%X) = %X leads back to %X", x, Mix(x), got)
	}
	if got := Mix(unmix(x)); got != x {
		t.Fatalf("%X is what Mix should make of %X; it makes %X", x, unmix(x), got)
	}
}

// P4.2: Mix is one to one, as it can be undone.
func TestMixCanBeUndone(t *testing.T) {
	for _, x := range words() {
		checkUndone(t, x)
		for _, y := range words() {
			checkUndone(t, x+y)
			checkUndone(t, x^y)
		}
	}
	for x := range uint64(1 << 16) {
		checkUndone(t, x)
		checkUndone(t, -x)
		checkUndone(t, x<<48)
		checkUndone(t, x*gamma)
	}
}

// P4.2: Mix gives different numbers for different numbers.
func TestMixTellsNumbersApart(t *testing.T) {
	from := map[uint64]uint64{}
	look := func(x uint64) {
		y := Mix(x)
		if before, ok := from[y]; ok && before != x {
			t.Fatalf("Mix(%X) = Mix(%X) = %X", before, x, y)
		}
		from[y] = x
	}
	for _, x := range words() {
		look(x)
		for _, y := range words() {
			look(x + y)
		}
	}
	for x := range uint64(1 << 15) {
		look(x)
		look(-x)
		look(x << 49)
		look(x << 25)
	}
}

// P5: what is answered hangs on the arguments alone, whatever was drawn in between.
func TestDrawsHangOnTheirArguments(t *testing.T) {
	for _, seed := range words() {
		mixed, at, below := Mix(seed), At(seed, 3, 4), Below(seed, 3, 4, 1000)
		for n := range 5 {
			Below(seed+1, n, n, 7)
		}
		if Mix(seed) != mixed || At(seed, 3, 4) != at || Below(seed, 3, 4, 1000) != below {
			t.Errorf("the draws of the seed %X changed", seed)
		}
	}
}
