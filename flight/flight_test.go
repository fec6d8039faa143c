package flight

import (
	"slices"
	"testing"

	"dulcimer/api"
	"dulcimer/chance"
	"dulcimer/duty"
	"dulcimer/lock"
	"dulcimer/watch"
)

func key(n int) api.Key { return api.Key{N: n} }

// P33.1, P33.2, P33.3
func TestJoin(t *testing.T) {
	g := New[int]()
	var m lock.Mutex
	got := map[int]int{}
	join := func(th *duty.Thread) {
		m.Lock(th)
		v, e := g.Join(th, &m, key(8))
		if e != api.ErrBig || m.Owner() != th.ID() {
			t.Error("Join", e, m.Owner())
		}
		got[th.ID()] = v
		m.Unlock(th)
	}
	watch.Run(t.Error, []int{0, 0, 1, 2, 1, 2}, 20,
		func(th *duty.Thread) {
			m.Lock(th)
			if !g.Begin(key(8)) || g.Begin(key(8)) || !g.Begin(api.Key{N: 8, Dir: 1}) || !g.Begin(key(4)) {
				t.Error("Begin")
			}
			if !slices.Equal(g.Keys(), []api.Key{key(4), key(8), {N: 8, Dir: 1}}) || g.Joined(key(8)) != 0 {
				t.Error("Keys", g.Keys())
			}
			m.Unlock(th)
			for g.Joined(key(8)) < 2 {
				th.Yield()
			}
			m.Lock(th)
			if g.Joined(key(4)) != 0 || g.Joined(key(2)) != 0 {
				t.Error("Joined")
			}
			if e := g.End(th, key(8), 5, api.ErrBig); e != api.OK || g.Joined(key(8)) != 0 || !slices.Equal(g.Keys(), []api.Key{key(4), {N: 8, Dir: 1}}) {
				t.Error("End", e, g.Keys())
			}
			if e := g.End(th, key(8), 6, api.OK); e != api.ErrNone {
				t.Error("End again", e)
			}
			// Something else begins, and ends, ahead of their coming back.
			if !g.Begin(key(8)) || g.Joined(key(8)) != 0 || g.End(th, key(8), 7, api.OK) != api.OK {
				t.Error("Begin again")
			}
			m.Unlock(th)
		}, join, join,
	)
	if got[1] != 5 || got[2] != 5 {
		t.Error(got)
	}
}

// P33.2
func TestWrong(t *testing.T) {
	var none *Group[int]
	watch.Run(t.Error, nil, 9, func(th *duty.Thread) {
		g := New[int]()
		var m lock.Mutex
		for i, c := range []struct {
			g *Group[int]
			t *duty.Thread
			m *lock.Mutex
			e api.Errno
		}{{none, th, &m, api.ErrNil}, {g, nil, &m, api.ErrNil}, {g, th, nil, api.ErrNil}, {g, th, &m, api.ErrNone}} {
			if v, e := c.g.Join(c.t, c.m, key(8)); v != 0 || e != c.e {
				t.Error(i, v, e)
			}
		}
		g.Begin(key(8))
		if v, e := g.Join(th, &m, key(8)); v != 0 || e != api.ErrState || g.Joined(key(8)) != 0 {
			t.Error("without the lock", v, e)
		}
		if none.End(th, key(8), 1, api.OK) != api.ErrNil || g.End(nil, key(8), 1, api.OK) != api.ErrNil || g.End(th, key(4), 1, api.OK) != api.ErrNone || len(g.Keys()) != 1 {
			t.Error("End")
		}
	})
	if none.Begin(key(8)) || none.Joined(key(8)) != 0 || len(none.Keys()) != 0 {
		t.Error("nil")
	}
}

// P33.4
func TestAll(t *testing.T) {
	for seed := range 50 {
		ch := chance.Chance(seed)
		picks := ch.Picks(400, 6)
		g := New[int]()
		var m lock.Mutex
		turn, ended := 0, map[int]bool{}
		one := func(th *duty.Thread) {
			for range 6 {
				m.Lock(th)
				if g.Begin(key(8)) {
					m.Unlock(th)
					th.Yield()
					th.Yield()
					m.Lock(th)
					turn++
					ended[turn] = true
					g.End(th, key(8), turn, api.OK)
				} else {
					from := turn
					if v, e := g.Join(th, &m, key(8)); e != api.OK || v != from+1 || !ended[v] {
						t.Error("another's", v, from, e)
					}
				}
				m.Unlock(th)
			}
		}
		watch.Run(t.Error, picks, 200, one, one, one, one, one, one)
		if t.Failed() || len(g.Keys()) != 0 {
			t.Fatal(seed, g.Keys())
		}
	}
}
