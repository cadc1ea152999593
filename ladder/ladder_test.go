package ladder

import (
	"math"
	"testing"

	"isochron/api"
)

// What ladders have in common with the other queues, package queues tests.

// P8.1: a bottom of less than one message, or of more than MaxQueue, is refused, and there is no queue beside the refusal; any other one makes an empty queue.
func TestNew(t *testing.T) {
	for _, c := range []struct {
		most int
		want api.Errno
	}{
		{math.MinInt, api.ErrArg},
		{-1<<32 + 1, api.ErrArg},
		{-16384, api.ErrArg},
		{-1, api.ErrArg},
		{0, api.ErrArg},
		{1, api.OK},
		{2, api.OK},
		{32, api.OK},
		{16383, api.OK},
		{16384, api.OK},
		{16385, api.ErrArg},
		{1 << 32, api.ErrArg},
		{1<<32 + 1, api.ErrArg},
		{math.MaxInt, api.ErrArg},
	} {
		q, e := New(c.most)
		if e != c.want || (q == nil) != (e != api.OK) {
			t.Errorf("New(%d): %v, %d, want %d", c.most, q, e, c.want)
		}
		if e == api.OK && (q.Len() != 0 || len(q.All()) != 0) {
			t.Errorf("New(%d): not empty", c.most)
		}
	}
}
