package calendar

import (
	"math"
	"testing"

	"isochron/api"
)

// What calendars have in common with the other queues, package queues tests.

// P7.1: a width below 1 is refused, and there is no queue beside the refusal; any other one makes an empty queue.
func TestNew(t *testing.T) {
	for _, c := range []struct {
		width int64
		want  api.Errno
	}{
		{math.MinInt64, api.ErrArg},
		{-api.MaxTime, api.ErrArg},
		{-1 << 32, api.ErrArg},
		{-1, api.ErrArg},
		{0, api.ErrArg},
		{1, api.OK},
		{2, api.OK},
		{16, api.OK},
		{1 << 32, api.OK},
		{api.MaxTime, api.OK},
		{api.Never, api.OK},
		{math.MaxInt64, api.OK},
	} {
		q, e := New(c.width)
		if e != c.want || (q == nil) != (e != api.OK) {
			t.Errorf("New(%d): %v, %d, want %d", c.width, q, e, c.want)
		}
		if e == api.OK && (q.Len() != 0 || len(q.All()) != 0) {
			t.Errorf("New(%d): not empty", c.width)
		}
	}
}
