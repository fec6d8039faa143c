package store

import (
	"slices"
	"testing"

	"dulcimer/api"
	"dulcimer/chance"
	"dulcimer/duty"
	"dulcimer/need"
	"dulcimer/table"
	"dulcimer/watch"
)

func powers(n int) api.Name { return api.Name{Kind: api.TabPowers, N: n} }

func chirp(n int) api.Name { return api.Name{Kind: api.TabChirp, N: n} }

// alone runs f as the only thread, to its end.
func alone(t *testing.T, f func(th *duty.Thread)) {
	t.Helper()
	watch.Run(t.Error, nil, 1000, f)
}

// P30.1
func TestTakeDrop(t *testing.T) {
	alone(t, func(th *duty.Thread) {
		s := New()
		b, e1 := s.Take(th, powers(8))
		c, e2 := s.Take(th, powers(8))
		if b != c || e1 != api.OK || e2 != api.OK || s.Uses(powers(8)) != 2 || s.Made() != 1 {
			t.Error("Take twice", e1, e2, s.Uses(powers(8)))
		}
		if e := s.Drop(th, b); e != api.OK || s.Uses(powers(8)) != 1 || len(s.Free()) != 0 {
			t.Error("Drop once", e)
		}
		if e := s.Drop(th, c); e != api.OK || s.Uses(powers(8)) != 0 || !slices.Equal(s.Free(), []int{8}) || len(s.Names()) != 0 {
			t.Error("Drop again", e, s.Free())
		}
		if e := s.Drop(th, b); e != api.ErrState {
			t.Error("Drop of none", e)
		}
		// Its room is used again, by another table of that size alone.
		d, _ := s.Take(th, powers(16))
		if !slices.Equal(s.Free(), []int{8}) {
			t.Error("another size", s.Free())
		}
		f, _ := s.Take(th, chirp(8))
		if len(s.Free()) != 0 || &f.Data()[0] != &b.Data()[0] || s.Made() != 3 {
			t.Error("the room is not used again", s.Free(), s.Made())
		}
		if e := s.Drop(th, b); e != api.ErrState || s.Uses(chirp(8)) != 1 {
			t.Error("Drop of one that is gone", e)
		}
		// The same name again is another table.
		g, _ := s.Take(th, powers(8))
		if g == b || s.Drop(th, b) != api.ErrState || s.Uses(powers(8)) != 1 {
			t.Error("a table that is gone stays so")
		}
		if !slices.Equal(s.Names(), []api.Name{powers(8), powers(16), chirp(8)}) {
			t.Error("Names", s.Names())
		}
		if e := New().Drop(th, d); e != api.ErrState {
			t.Error("another's table", e)
		}
		s.Drop(th, d)
		s.Drop(th, g)
		s.Drop(th, f)
		if !slices.Equal(s.Free(), []int{8, 8, 16}) || s.Dirty() != 0 || s.Made() != 4 {
			t.Error("Free", s.Free(), s.Dirty(), s.Made())
		}
	})
}

// P30.2
func TestData(t *testing.T) {
	alone(t, func(th *duty.Thread) {
		s := New()
		for _, n := range []api.Name{powers(8), chirp(6), {Kind: api.TabRader, N: 17, Dir: 1}, {Kind: api.TabBlue, N: 3, M: 8}} {
			b, _ := s.Take(th, n)
			want, _ := table.Make(n)
			if b.Name() != n || !slices.Equal(b.Data(), want) || &b.Data()[0] != &b.Data()[0] {
				t.Error("Data", n)
			}
			s.Drop(th, b)
			if b.Name() != n || !table.Clean(b.Data()) || len(b.Data()) != need.Room(n) {
				t.Error("Data of one that is gone", n)
			}
		}
		b, _ := s.Take(th, powers(32))
		s.Drop(th, b)
		if !table.Clean(b.Data()) || s.Dirty() != 0 {
			t.Error("filled when it was gone")
		}
	})
	var none *Table
	if none.Name() != (api.Name{}) || len(none.Data()) != 0 {
		t.Error("nil")
	}
}

// P30.1, P30.3
func TestWrong(t *testing.T) {
	var none *Store
	alone(t, func(th *duty.Thread) {
		s := New()
		b, _ := s.Take(th, powers(2))
		for _, n := range []api.Name{{}, powers(7), {Kind: 9, N: 8}, {Kind: 1, N: 8, Dir: 2}} {
			if x, e := s.Take(th, n); x != nil || e != api.ErrArg || s.Uses(n) != 0 {
				t.Error(n, e)
			}
		}
		x, e1 := none.Take(th, api.Name{})
		y, e2 := s.Take(nil, powers(8))
		if x != nil || y != nil || e1 != api.ErrNil || e2 != api.ErrNil || none.Drop(th, b) != api.ErrNil || s.Drop(nil, b) != api.ErrNil || s.Drop(th, nil) != api.ErrNil {
			t.Error("nil", e1, e2)
		}
		if e := s.Drop(th, &Table{}); e != api.ErrState {
			t.Error(e)
		}
	})
	if none.Uses(powers(2)) != 0 || len(none.Names()) != 0 || len(none.Free()) != 0 || none.Dirty() != 0 || none.Made() != 0 {
		t.Error("looks of nil")
	}
}

// P30.3: a free room that somebody wrote into is told.
func TestDirty(t *testing.T) {
	alone(t, func(th *duty.Thread) {
		s := New()
		b, _ := s.Take(th, powers(4))
		data := b.Data()
		s.Drop(th, b)
		if s.Dirty() != 0 {
			t.Error("Dirty")
		}
		data[3] = 1
		if s.Dirty() != 1 {
			t.Error("not Dirty")
		}
		data[3] = 0
	})
}

// P30.4
func TestTurns(t *testing.T) {
	s := New()
	r := watch.Run(t.Error, nil, 99, func(th *duty.Thread) {
		b, _ := s.Take(th, powers(8))
		b.Data()
		s.Uses(powers(8))
		s.Drop(th, b)
		s.Take(th, api.Name{})
		s.Drop(th, nil)
	})
	if len(r.Order) != 3 {
		t.Error("one turn more for each Take and Drop", r)
	}
}

// P30.5
func TestAnyOrder(t *testing.T) {
	for seed := range 40 {
		s := New()
		ch := chance.Chance(seed)
		have := map[api.Name]int{}
		one := func(th *duty.Thread) {
			n := []api.Name{powers(4), powers(8), chirp(8)}[th.ID()%3]
			for range 5 {
				b, e := s.Take(th, n)
				have[n]++
				for range 2 {
					want, _ := table.Make(n)
					if e != api.OK || !slices.Equal(b.Data(), want) || s.Uses(n) != have[n] {
						t.Error("it has no use", n, e)
					}
					th.Yield()
				}
				// The count goes down in the turn in which Drop does it.
				s.lock.Lock(th)
				s.lock.Unlock(th)
				e = s.Drop(th, b)
				have[n]--
				if e != api.OK || s.Dirty() != 0 {
					t.Error("Drop", e, s.Dirty())
				}
			}
		}
		picks := ch.Picks(400, 6)
		watch.Run(t.Error, picks, 300, one, one, one, one, one, one)
		if t.Failed() || len(s.Names()) != 0 || s.Dirty() != 0 {
			t.Fatal(s.Names(), s.Dirty())
		}
	}
}
