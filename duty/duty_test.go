package duty

import (
	"math"
	"runtime"
	"slices"
	"testing"
	"time"

	"dulcimer/api"
)

type fun = func(t *Thread)

// steps yields so often.
func steps(n int) fun {
	return func(t *Thread) {
		for range n {
			t.Yield()
		}
	}
}

func check(t *testing.T, what string, r Report, e api.Errno, order []int, over, parked []bool) {
	t.Helper()
	if e != api.OK || !slices.Equal(r.Order, order) || !slices.Equal(r.Over, over) || !slices.Equal(r.Parked, parked) {
		t.Error(what, r, e)
	}
}

// P27.1, P27.2
func TestTurns(t *testing.T) {
	r, e := Run([]fun{steps(1), steps(1)}, []int{0, 0, 1}, 0)
	check(t, "the chapter's example", r, e, []int{0, 0, 1}, []bool{true, false}, []bool{false, false})

	r, e = Run([]fun{steps(9), nil, steps(1)}, []int{-1, 3, 1, 2, 5, -3, 2, math.MinInt, math.MaxInt}, 0)
	check(t, "modulo", r, e, []int{2, 0, 2, 0}[:4], []bool{false, true, true}, []bool{false, false, false})

	r, e = Run([]fun{steps(1), nil, steps(3)}, []int{2}, 2)
	check(t, "rounds", r, e, []int{2, 0, 2, 0, 2}, []bool{true, true, false}, []bool{false, false, false})

	r, e = Run([]fun{steps(2)}, nil, math.MaxInt)
	check(t, "many rounds", r, e, []int{0, 0, 0}, []bool{true}, []bool{false})
	r, e = Run([]fun{steps(2)}, nil, math.MinInt)
	check(t, "no rounds", r, e, nil, []bool{false}, []bool{false})
	r, e = Run(nil, []int{0, 5, -7}, 9)
	check(t, "no threads", r, e, nil, nil, nil)

	r, e = Run([]fun{func(*Thread) { panic("own") }, func(*Thread) { var m map[int]int; m[0]++ }, func(*Thread) { runtime.Goexit() }}, []int{0, 0, 1, 1, 2, 2}, 1)
	check(t, "panics", r, e, []int{0, 1, 2}, []bool{true, true, true}, []bool{false, false, false})
}

// P27.2
func TestMany(t *testing.T) {
	if r, e := Run(make([]fun, api.MaxThreads), nil, 1); e != api.OK || len(r.Over) != api.MaxThreads || !r.Over[63] {
		t.Error(r, e)
	}
	if r, e := Run(make([]fun, api.MaxThreads+1), nil, 1); e != api.ErrBig || len(r.Over)+len(r.Order)+len(r.Parked) != 0 {
		t.Error(r, e)
	}
	count := 0
	r, e := Run([]fun{func(t *Thread) {
		for {
			count++
			t.Yield()
		}
	}}, nil, 1<<20+5)
	if e != api.OK || count != 1<<20 || len(r.Order) != 1<<20 {
		t.Error("rounds are held", count, len(r.Order), e)
	}
}

// P27.1: one at a time, from where it stood.
func TestOneAtATime(t *testing.T) {
	var trace []int
	one := func(t *Thread) {
		for i := range 3 {
			trace = append(trace, t.ID()*10+i)
			t.Yield()
		}
	}
	Run([]fun{one, one, one}, []int{1, 0, 1, 2, 2, 1, 0}, 1)
	if !slices.Equal(trace, []int{10, 0, 11, 20, 21, 12, 1, 2, 22}) {
		t.Error(trace)
	}
}

// P27.1, P27.4, P27.5
func TestPark(t *testing.T) {
	var woken bool
	sleeper := func(t *Thread) {
		t.Park()
		woken = true
		t.Park()
	}
	waker := func(t *Thread) {
		t.Wake(-1)
		t.Wake(2)
		t.Wake(math.MaxInt)
		t.Wake(1)
		t.Yield()
		t.Wake(0)
		t.Yield()
	}
	r, e := Run([]fun{sleeper, waker}, []int{0, 0, 0}, 0)
	check(t, "parked", r, e, []int{0}, []bool{false, false}, []bool{true, false})
	if woken {
		t.Error("its Park came back")
	}
	r, e = Run([]fun{sleeper, waker}, []int{0, 1, 0, 1, 0}, 0)
	check(t, "woken", r, e, []int{0, 1, 1, 0}, []bool{false, false}, []bool{true, false})
	if !woken {
		t.Error("its Park did not come back")
	}
	r, e = Run([]fun{sleeper, waker}, []int{1, 1, 0}, 5)
	check(t, "a Wake ahead of the Park is nothing", r, e, []int{1, 1, 0, 1}, []bool{false, true}, []bool{true, false})
	r, e = Run([]fun{sleeper}, nil, 1<<20)
	check(t, "all parked", r, e, []int{0}, []bool{false}, []bool{true})
	r, e = Run([]fun{func(t *Thread) { t.Wake(t.ID()); t.Park() }}, nil, 4)
	check(t, "its own Wake", r, e, []int{0}, []bool{false}, []bool{true})
}

// P27.3
func TestEnd(t *testing.T) {
	var trace []string
	say := func(s string) { trace = append(trace, s) }
	tidy := func(name string, stand fun) fun {
		return func(t *Thread) {
			defer say(name + " last")
			defer func() {
				say(name + " first")
				stand(t)
				say(name + " never")
			}()
			stand(t)
			say(name + " never")
		}
	}
	before := runtime.NumGoroutine()
	r, e := Run([]fun{tidy("a", (*Thread).Yield), tidy("b", (*Thread).Park), func(t *Thread) { say("not begun") }, tidy("c", (*Thread).Yield)}, []int{0, 1, 3}, 0)
	check(t, "end", r, e, []int{0, 1, 3}, []bool{false, false, false, false}, []bool{false, true, false, false})
	if !slices.Equal(trace, []string{"a first", "a last", "b first", "b last", "c first", "c last"}) {
		t.Error(trace)
	}
	for i := 0; i < 100 && runtime.NumGoroutine() > before; i++ {
		time.Sleep(time.Millisecond)
	}
	if n := runtime.NumGoroutine(); n > before {
		t.Error("threads are left", n, before)
	}
}

// P27.3: deferred functions of one that panics by itself have their turns.
func TestPanicYields(t *testing.T) {
	r, e := Run([]fun{func(t *Thread) {
		defer t.Yield()
		panic("own")
	}}, []int{0}, 0)
	check(t, "yields in a deferred function", r, e, []int{0}, []bool{false}, []bool{false})
	r, e = Run([]fun{func(t *Thread) {
		defer t.Yield()
		panic("own")
	}}, []int{0, 0}, 0)
	check(t, "over behind it", r, e, []int{0, 0}, []bool{true}, []bool{false})
}

// P27.4, and calls that nobody is to make end all the same.
func TestNil(t *testing.T) {
	var none *Thread
	none.Yield()
	none.Park()
	none.Wake(0)
	if none.ID() != -1 {
		t.Error(none.ID())
	}
	var kept *Thread
	Run([]fun{func(t *Thread) { kept = t; t.Yield() }}, []int{0}, 0)
	for _, x := range []*Thread{kept, {}} {
		x.Yield()
		x.Park()
		x.Wake(0)
	}
}
