package lock

import (
	"slices"
	"testing"

	"dulcimer/api"
	"dulcimer/chance"
	"dulcimer/duty"
	"dulcimer/watch"
)

type fun = func(t *duty.Thread)

func run(t *testing.T, fs []fun, picks []int, rounds int) duty.Report {
	t.Helper()
	return watch.Run(t.Error, picks, rounds, fs...)
}

// P28.1
func TestLock(t *testing.T) {
	var m Mutex
	var trace []int
	one := func(th *duty.Thread) {
		if e := m.Lock(th); e != api.OK || m.Owner() != th.ID() {
			t.Error("Lock", e, m.Owner())
		}
		trace = append(trace, th.ID())
		if e := m.Lock(th); e != api.ErrState {
			t.Error("Lock twice", e)
		}
		th.Yield()
		if e := m.Unlock(th); e != api.OK {
			t.Error("Unlock", e)
		}
		if e := m.Unlock(th); e != api.ErrState {
			t.Error("Unlock twice", e)
		}
	}
	if m.Owner() != -1 {
		t.Error("a zero lock is free")
	}
	// 2 asks first, then 0, then 1: each yields once ahead of that, and who waits is parked.
	r := run(t, []fun{one, one, one}, []int{0, 1, 2, 2, 0, 1, 0, 1}, 0)
	if !slices.Equal(r.Order, []int{0, 1, 2, 2, 0, 1}) || !slices.Equal(r.Parked, []bool{true, true, false}) {
		t.Error("who waits is parked", r)
	}
	m, trace = Mutex{}, nil
	r = run(t, []fun{one, one, one}, []int{0, 1, 2, 2, 0, 1, 2}, 3)
	if !slices.Equal(trace, []int{2, 0, 1}) || m.Owner() != -1 || slices.Contains(r.Over, false) {
		t.Error("the order in which they came", trace, m.Owner(), r)
	}
}

// P28.1: just one yield, and the lock is handed over at once.
func TestHanded(t *testing.T) {
	var m Mutex
	turns := 0
	first := func(th *duty.Thread) {
		m.Lock(th)
		th.Yield()
		m.Unlock(th)
		if m.Owner() != 1 {
			t.Error("handed over", m.Owner())
		}
		if e := m.Unlock(th); e != api.ErrState {
			t.Error(e)
		}
		turns++
		m.Lock(th)
		turns++
	}
	second := func(th *duty.Thread) {
		m.Lock(th)
		m.Unlock(th)
	}
	r := run(t, []fun{first, second}, []int{0, 0, 1, 1, 0, 0}, 0)
	if turns != 1 || !slices.Equal(r.Parked, []bool{true, false}) {
		t.Error("the lock is another's", turns, r)
	}
	m, turns = Mutex{}, 0
	r = run(t, []fun{first, second}, []int{0, 0, 1, 1, 0, 0, 1, 0}, 0)
	if turns != 2 || !slices.Equal(r.Over, []bool{true, true}) {
		t.Error(turns, r)
	}
}

// P28.1: a Wake of somebody else's changes nothing.
func TestWokenForNothing(t *testing.T) {
	var m Mutex
	got := false
	r := run(t, []fun{
		func(th *duty.Thread) { m.Lock(th); th.Yield(); th.Yield(); th.Yield() },
		func(th *duty.Thread) { m.Lock(th); got = true },
		func(th *duty.Thread) { th.Wake(1) },
	}, []int{0, 0, 1, 1, 2, 1, 1, 1}, 0)
	if got || !r.Parked[1] {
		t.Error(got, r)
	}
}

// P28.2
func TestCond(t *testing.T) {
	var m Mutex
	var c Cond
	var trace []int
	wait := func(th *duty.Thread) {
		if e := c.Wait(th, &m); e != api.ErrState {
			t.Error("Wait without the lock", e)
		}
		m.Lock(th)
		if e := c.Wait(th, &m); e != api.OK || m.Owner() != th.ID() {
			t.Error("Wait", e, m.Owner())
		}
		trace = append(trace, th.ID())
		th.Yield()
		m.Unlock(th)
	}
	tell := func(all bool) fun {
		return func(th *duty.Thread) {
			for c.Waiting() < 3 {
				th.Yield()
			}
			m.Lock(th)
			if all {
				c.Broadcast(th)
				if c.Waiting() != 0 {
					t.Error("Waiting", c.Waiting())
				}
			} else {
				c.Signal(th)
				if c.Waiting() != 2 {
					t.Error("Waiting", c.Waiting())
				}
			}
			if m.Owner() != th.ID() {
				t.Error("Owner", m.Owner())
			}
			m.Unlock(th)
		}
	}
	r := run(t, []fun{wait, wait, wait, tell(true)}, []int{2, 2, 0, 0, 1, 1}, 12)
	if !slices.Equal(trace, []int{2, 0, 1}) || slices.Contains(r.Over, false) || m.Owner() != -1 {
		t.Error("Broadcast", trace, r)
	}
	m, c, trace = Mutex{}, Cond{}, nil
	r = run(t, []fun{wait, wait, wait, tell(false)}, append([]int{2, 2, 0, 0, 1, 1}, slices.Repeat([]int{0, 1, 2, 3}, 12)...), 0)
	if !slices.Equal(trace, []int{2}) || !slices.Equal(r.Parked, []bool{true, true, false, false}) || c.Waiting() != 2 {
		t.Error("Signal", trace, r)
	}
}

// P28.2: who is told has a free lock at once; or waits behind all who do.
func TestSignal(t *testing.T) {
	var m Mutex
	var c Cond
	var trace []int
	wait := func(th *duty.Thread) {
		m.Lock(th)
		c.Wait(th, &m)
		trace = append(trace, th.ID())
		m.Unlock(th)
	}
	r := run(t, []fun{wait, func(th *duty.Thread) {
		if e := c.Signal(th); e != api.OK || m.Owner() != 0 {
			t.Error("has it at once", e, m.Owner())
		}
		if e := c.Signal(th); e != api.OK {
			t.Error("nobody waits", e)
		}
		if e := c.Broadcast(th); e != api.OK {
			t.Error("nobody waits", e)
		}
	}}, []int{0, 0, 0, 1, 0}, 0)
	if !slices.Equal(trace, []int{0}) || !r.Over[0] {
		t.Error(trace, r)
	}
	m, c, trace = Mutex{}, Cond{}, nil
	lock := func(th *duty.Thread) { m.Lock(th); trace = append(trace, th.ID()); th.Yield(); m.Unlock(th) }
	// 1 has the lock, 2 waits for it, and then 0 is told by 3.
	r = run(t, []fun{wait, lock, lock, func(th *duty.Thread) { c.Signal(th) }}, []int{0, 0, 1, 1, 2, 2, 3}, 6)
	if !slices.Equal(trace, []int{1, 2, 0}) || slices.Contains(r.Over, false) {
		t.Error(trace, r)
	}
}

// P28.3
func TestAtMostOne(t *testing.T) {
	var m Mutex
	inside, done := 0, 0
	one := func(th *duty.Thread) {
		for range 4 {
			m.Lock(th)
			if inside++; inside > 1 {
				t.Error("two have it")
			}
			th.Yield()
			inside--
			done++
			m.Unlock(th)
		}
	}
	ch := chance.Chance(1)
	picks := ch.Picks(300, 5)
	if r := run(t, []fun{one, one, one, one, one}, picks, 100); done != 20 || slices.Contains(r.Over, false) {
		t.Error(done, r)
	}
}

func TestNil(t *testing.T) {
	var m *Mutex
	var c *Cond
	run(t, []fun{func(th *duty.Thread) {
		for i, e := range []api.Errno{m.Lock(th), m.Unlock(th), new(Mutex).Lock(nil), new(Mutex).Unlock(nil), c.Wait(th, new(Mutex)), new(Cond).Wait(nil, new(Mutex)), new(Cond).Wait(th, nil), c.Signal(th), c.Broadcast(th), new(Cond).Signal(nil), new(Cond).Broadcast(nil)} {
			if e != api.ErrNil {
				t.Error(i, e)
			}
		}
	}}, nil, 1)
	if m.Owner() != -1 || c.Waiting() != 0 || new(Cond).Waiting() != 0 {
		t.Error("looks")
	}
}
