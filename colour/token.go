package colour

import (
	"isochron/api"
	"isochron/vtime"
)

// The two parts of a round, and how many they are.
const (
	turning = iota
	counting
	parts
)

// visit is what is done at one process in one part of a round: what it tells, and whether the round is over.
type visit func(t *Tally, local int64) (int64, bool)

// Token goes to all processes in turn; of a token that no call made n is 0.
type Token struct {
	n     int // processes
	at    int // the process to which it goes
	part  int
	sum   int   // of the counts in the colour ahead of turning, since the part began
	least int64 // of all times that may still come, since the part began
}

// NewToken is a token of n processes that goes to the process 0, ahead of its first round.
func NewToken(n int) (*Token, api.Errno) {
	if n < 1 || n > api.MaxLanes {
		return nil, api.ErrArg
	}
	k := &Token{n: n}
	k.begin(turning)
	return k, api.OK
}

// made tells whether k came from NewToken.
func (k *Token) made() bool { return k != nil && k.n > 0 }

// begin begins a part of a round, or that part anew.
func (k *Token) begin(part int) {
	k.part, k.sum, k.least = part, 0, api.Never
}

// onward lets the token go to the next process; it tells whether it was at the last one.
func (k *Token) onward() bool {
	k.at = (k.at + 1) % k.n
	return k.at == 0
}

// visits are those of the two parts of a round. They are not kept in the token, as those of a copied one would go on with the token that it was copied from.
func (k *Token) visits() [parts]visit {
	return [parts]visit{turning: k.turn, counting: k.count}
}

// turn turns the colour of t; no round is over there.
func (k *Token) turn(t *Tally, _ int64) (int64, bool) {
	t.Flip()
	if k.onward() {
		k.begin(counting)
	}
	return 0, false
}

// count adds up what t knows. Messages in the colour ahead of turning become fewer only, so that a sum of 0 behind the last process tells that none of them is on its way.
func (k *Token) count(t *Tally, local int64) (int64, bool) {
	k.sum += t.Net(other(t.Colour()))
	k.least = vtime.Least(k.least, local, t.Red())
	if !k.onward() {
		return 0, false
	}
	if k.sum != 0 {
		k.begin(counting)
		return 0, false
	}
	told := k.least
	k.begin(turning)
	return told, true
}

// At is the process to which the token goes.
func (k *Token) At() int {
	if !k.made() {
		return 0
	}
	return k.at
}

// Counting tells whether the token is past turning.
func (k *Token) Counting() bool { return k.made() && k.part == counting }

// Visit is the token's visit to the process of t, where nothing earlier than local may still be done. When a round is over, it tells the global time, and true.
func (k *Token) Visit(t *Tally, local int64) (int64, bool, api.Errno) {
	if !k.made() || !t.made() {
		return 0, false, api.ErrZero
	}
	told, isOver := k.visits()[k.part](t, local)
	return told, isOver, api.OK
}
