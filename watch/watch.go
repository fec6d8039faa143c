// Package watch runs threads for tests, and tells of those that panicked: what a Run catches would else pass unseen.
package watch

import (
	"dulcimer/api"
	"dulcimer/duty"
)

// Run is duty.Run; it tells fail of each thread that is over, but did not come to its function's end, and, if there are rounds, of each that is not over.
func Run(fail func(...any), picks []int, rounds int, fs ...func(t *duty.Thread)) duty.Report {
	ended := make([]bool, len(fs))
	own := make([]func(t *duty.Thread), len(fs))
	for i, f := range fs {
		own[i] = func(t *duty.Thread) {
			f(t)
			ended[i] = true
		}
	}
	r, e := duty.Run(own, picks, rounds)
	if e != api.OK {
		fail("Run", e)
	}
	for i, over := range r.Over {
		switch {
		case over && !ended[i]:
			fail("a thread panicked", i)
		case !over && rounds > 0:
			fail("a thread did not end", i)
		}
	}
	return r
}
