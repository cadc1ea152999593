// Package vtime is layer 1: see shared/doc/01-vtime.md.
package vtime

import (
	"isochron/api"
)

// Valid tells whether t is a time: Never is none.
func Valid(t int64) bool { return t >= 0 && t <= api.MaxTime }

// Add is t + d, refused where that would be no time any more.
func Add(t int64, d int64) (int64, api.Errno) {
	switch {
	case !Valid(t):
		fallthrough
	case d < 0:
		return 0, api.ErrArg
	case d > api.MaxTime-t: // t + d itself could wrap round
		return 0, api.ErrTime
	}
	return t + d, api.OK
}

// Reach is t + d, held between 0 and Never.
func Reach(t int64, d int64) int64 {
	t = min(max(t, 0), api.Never)
	// What is left up to Never bounds d, as t + d itself could wrap round.
	return t + min(max(d, 0), api.Never-t)
}

// Least is the least of l, and Never where nothing in l is below it.
func Least(l ...int64) int64 {
	least := api.Never
	for _, t := range l {
		least = min(least, t)
	}
	return least
}

// Steps is how many whole widths lie between from and to.
func Steps(from int64, to int64, width int64) (int64, api.Errno) {
	switch {
	case width < 1:
		fallthrough
	case !Valid(from):
		fallthrough
	case !Valid(to):
		fallthrough
	case to < from:
		return 0, api.ErrArg
	}
	return (to - from) / width, api.OK
}
