package service

import (
	"math"
	"slices"
	"strings"
	"testing"

	"dulcimer/api"
	"dulcimer/chance"
	"dulcimer/desc"
	"dulcimer/dft"
	"dulcimer/duty"
	"dulcimer/entry"
	"dulcimer/need"
	"dulcimer/stripe"
	"dulcimer/tick"
	"dulcimer/watch"
	"dulcimer/wisdom"
)

func key(n int) api.Key { return api.Key{N: n} }

func fresh(stripes, room int) *Service {
	s, _ := New(stripes, room, tick.New([]int{3, 1, 4, 1, 5, 9, 2, 6, 5, 3, 5}))
	return s
}

func run(t *testing.T, picks []int, rounds int, fs ...func(*duty.Thread)) duty.Report {
	t.Helper()
	return watch.Run(t.Error, picks, rounds, fs...)
}

// P35.1
func TestNew(t *testing.T) {
	for _, c := range [][2]int{{0, 1}, {17, 1}, {1, 0}, {1, 65}, {-1, -1}, {math.MinInt, 1}, {1, math.MaxInt}} {
		if s, e := New(c[0], c[1], nil); s != nil || e != api.ErrArg {
			t.Error(c, e)
		}
	}
	for _, n := range []int{1, 2, 7, 16} {
		s, e := New(n, 64, nil)
		if e != api.OK || s.Store() == nil || s.Flying() != 0 || len(s.Known()) != 0 {
			t.Fatal(n, e)
		}
		for _, k := range []api.Key{key(0), key(8), {N: 8, Dir: 1}, {N: 5, Dir: 1}, {N: -3}, {N: 0, Dir: -1}, {N: math.MaxInt}, {N: math.MinInt, Dir: -5}} {
			want := (2*k.N + k.Dir) % n
			if want < 0 {
				want += n
			}
			if s.Place(k) != want {
				t.Error("Place", n, k, s.Place(k))
			}
		}
	}
}

// P35.2, P35.4
func TestHandles(t *testing.T) {
	run(t, nil, 999, func(th *duty.Thread) {
		s := fresh(2, 2)
		h, e := s.Get(th, key(2))
		if e != api.OK {
			t.Fatal(e)
		}
		if y, e := h.Execute(th, []uint64{1, 2}); e != api.OK || !slices.Equal(y, []uint64{3, api.P - 1}) {
			t.Error("the chapter's example", y, e)
		}
		for _, n := range []int{0, 1, 3} {
			if y, e := h.Execute(th, make([]uint64, n)); e != api.ErrLen || len(y) != 0 {
				t.Error(n, e)
			}
		}
		g, e := s.Lookup(th, key(2))
		if e != api.OK || g == h || !One(g, h) || !s.Keeps(g) || !s.Keeps(h) || !entry.Same(g.Entry(), h.Entry()) || h.Entry().Key != key(2) || !entry.Same(h.Entry(), s.Known()[0]) {
			t.Error("Lookup", e)
		}
		x := h.Entry()
		if e := h.Release(th); e != api.OK {
			t.Error(e)
		}
		if y, e := h.Execute(th, nil); e != api.ErrReleased || len(y) != 0 {
			t.Error("the chapter's example", e)
		}
		if e := h.Release(th); e != api.ErrReleased || !entry.Same(h.Entry(), x) || !One(g, h) {
			t.Error("released", e)
		}
		if ok, e := s.Evict(th, key(2)); !ok || e != api.OK || s.Keeps(g) || len(s.Kept(0))+len(s.Kept(1)) != 0 {
			t.Error("Evict", ok, e)
		}
		if ok, e := s.Evict(th, key(2)); ok || e != api.OK {
			t.Error("Evict again", ok, e)
		}
		if l, e := s.Lookup(th, key(2)); l != nil || e != api.ErrNone {
			t.Error("Lookup of none", e)
		}
		if y, e := g.Execute(th, []uint64{1, 2}); e != api.OK || !slices.Equal(y, []uint64{3, api.P - 1}) {
			t.Error("evicted", y, e)
		}
		again, _ := s.Get(th, key(2))
		if One(again, g) || !s.Keeps(again) || s.Stats() != (stripe.Stats{Measured: 1, Built: 2, Inserted: 2}) {
			t.Error("another plan", s.Stats())
		}
		g.Release(th)
		again.Release(th)
		s.Evict(th, key(2))
		if len(s.Store().Names()) != 0 || s.Store().Dirty() != 0 {
			t.Error("tables are left", s.Store().Names())
		}
	})
}

// P35.2, P35.5
func TestWrong(t *testing.T) {
	var none *Service
	var nobody *Handle
	s := fresh(3, 2)
	run(t, nil, 999, func(th *duty.Thread) {
		for _, c := range []struct {
			s *Service
			t *duty.Thread
			k api.Key
			e api.Errno
		}{{none, th, key(7), api.ErrNil}, {s, nil, key(7), api.ErrNil}, {s, th, api.Key{N: 7, Dir: 2}, api.ErrSize}, {s, th, key(0), api.ErrSize}, {s, th, api.Key{N: 8, Dir: 2}, api.ErrArg}, {s, th, api.Key{N: 8, Dir: -1}, api.ErrArg}} {
			h, e1 := c.s.Get(c.t, c.k)
			l, e2 := c.s.Lookup(c.t, c.k)
			ok, e3 := c.s.Evict(c.t, c.k)
			if h != nil || l != nil || ok || e1 != c.e || e2 != c.e || e3 != c.e {
				t.Error(c, e1, e2, e3)
			}
		}
		h, _ := s.Get(th, key(8))
		_, e1 := h.Execute(nil, nil)
		_, e2 := nobody.Execute(th, nil)
		n, line, e3 := none.Import(th, "x")
		_, _, e4 := s.Import(nil, "x")
		a, e5 := none.Export(th)
		b, e6 := s.Export(nil)
		if slices.Contains([]bool{e1 == api.ErrNil, e2 == api.ErrNil, e3 == api.ErrNil, e4 == api.ErrNil, e5 == api.ErrNil, e6 == api.ErrNil, h.Release(nil) == api.ErrNil, nobody.Release(th) == api.ErrNil}, false) || n != 0 || line != 0 || a+b != "" {
			t.Error("nil", e1, e2, e3, e4, e5, e6)
		}
		if One(h, nil) || One(nil, h) || One(nil, nil) || !One(h, h) || s.Keeps(nil) || none.Keeps(h) || fresh(3, 2).Keeps(h) || !s.Keeps(h) {
			t.Error("One, Keeps")
		}
	})
	if !entry.Same(nobody.Entry(), api.Entry{}) || none.Place(key(8)) != 0 || len(none.Kept(0))+len(none.Known())+none.Flying() != 0 || none.Stats() != (stripe.Stats{}) || none.Store() != nil {
		t.Error("looks of nil")
	}
	for _, i := range []int{-1, 3, math.MaxInt, math.MinInt} {
		if len(s.Kept(i)) != 0 {
			t.Error("Kept", i)
		}
	}
	if !slices.Equal(s.Kept(s.Place(key(8))), []api.Key{key(8)}) {
		t.Error("Kept")
	}
}

// P35.3
func TestTexts(t *testing.T) {
	run(t, nil, 999, func(th *duty.Thread) {
		s := fresh(3, 2)
		text := "dulcimer 1\n8 1 naive8\n2 0 small2\n8 0 naive8\n"
		if n, line, e := s.Import(th, text); n != 3 || line != 0 || e != api.OK {
			t.Error(n, line, e)
		}
		if n, line, e := s.Import(th, "dulcimer 1\n8 1 stock8\n4 0 stock4\n"); n != 1 || line != 0 || e != api.OK {
			t.Error(n, line, e)
		}
		for _, c := range []struct {
			s    string
			line int
			e    api.Errno
		}{{"", 1, api.ErrVersion}, {"dulcimer 1\n16 0 stock16\n7 0 naive7\n", 3, api.ErrSize}, {strings.Repeat(" ", api.MaxText+1), 0, api.ErrBig}, {"dulcimer 1\n16 0 stock16\n16 0 stock16\n", 3, api.ErrTwice}, {"dulcimer 1\n16 0 stock16", 2, api.ErrSyntax}} {
			if n, line, e := s.Import(th, c.s); n != 0 || line != c.line || e != c.e {
				t.Error(c, n, line, e)
			}
		}
		want := "dulcimer 1\n2 0 small2\n4 0 stock4\n8 0 naive8\n8 1 naive8\n"
		if got, e := s.Export(th); got != want || e != api.OK {
			t.Error(got, e)
		}
		h, _ := s.Get(th, key(8))
		if h.Entry().Desc.Kind != api.Naive || s.Stats().Measured != 0 {
			t.Error("by what is known", h.Entry())
		}
		other := fresh(5, 1)
		other.Import(th, want)
		if got, e := other.Export(th); got != want || e != api.OK {
			t.Error("there and back", got, e)
		}
		if l, _, _ := wisdom.Parse(want); !slices.EqualFunc(other.Known(), l, entry.Same) {
			t.Error("Known", other.Known())
		}
		if got, e := fresh(1, 1).Export(th); got != "dulcimer 1\n" || e != api.OK {
			t.Error(got, e)
		}
	})
}

// P35.3: all locks at once: an Export sees all of an Import, or nothing.
func TestWhole(t *testing.T) {
	for seed := range 60 {
		s := fresh(4, 1)
		ch := chance.Chance(seed)
		picks := ch.Picks(60, 3)
		all := "dulcimer 1\n2 0 small2\n2 1 small2\n3 0 small3\n3 1 small3\n"
		export := func(th *duty.Thread) {
			for range 3 {
				if text, e := s.Export(th); e != api.OK || text != all && text != "dulcimer 1\n" {
					t.Error(text, e)
				}
			}
		}
		run(t, picks, 99, func(th *duty.Thread) { s.Import(th, all) }, export, export)
	}
}

// P35.4: though it is released meanwhile.
func TestReleasedMeanwhile(t *testing.T) {
	for at := range 12 {
		s := fresh(1, 1)
		var h *Handle
		x := make([]uint64, 8)
		x[1] = 7
		want, _ := dft.Dft(x, 0)
		picks := slices.Repeat([]int{0}, at)
		picks = append(picks, 1, 1, 1, 1, 1, 1, 2, 2, 2, 2, 2, 2)
		run(t, nil, 99, func(th *duty.Thread) { h, _ = s.Get(th, key(8)); s.Evict(th, key(8)) })
		// The plan's locks are free: so another Run's threads may have the handle.
		run(t, picks, 99, func(th *duty.Thread) {
			y, e := h.Execute(th, x)
			if e != api.OK && (e != api.ErrReleased || at > 0) || e == api.OK && !slices.Equal(y, want) {
				t.Error(at, y, e)
			}
		}, func(th *duty.Thread) {
			if e := h.Release(th); e != api.OK {
				t.Error(at, e)
			}
		}, func(th *duty.Thread) {
			s.Get(th, api.Key{N: 8, Dir: 1})
		})
		if names := s.Store().Names(); len(names) != 1 && at > 20 || s.Store().Dirty() != 0 || h.plan.Uses() != 0 {
			t.Error(at, names, h.plan.Uses())
		}
	}
}

// counted looks whether each table has as many uses as there are plans that name it, among those that are kept and those of open handles.
func counted(t *testing.T, s *Service, open []*Handle) {
	t.Helper()
	uses := map[api.Name]int{}
	count := func(x api.Entry) {
		names, _ := need.Tables(x.Desc, x.Key.Dir)
		for _, n := range names {
			uses[n]++
		}
	}
	for i := range 3 {
		for _, k := range s.Kept(i) {
			j := slices.IndexFunc(s.Known(), func(x api.Entry) bool { return x.Key == k })
			count(s.Known()[j])
		}
	}
	for i, h := range open {
		if !s.Keeps(h) && !slices.ContainsFunc(open[:i], func(g *Handle) bool { return One(g, h) }) {
			count(h.Entry())
		}
	}
	names := s.Store().Names()
	if len(names) != len(uses) || s.Flying() != 0 || s.Store().Dirty() != 0 {
		t.Fatal(names, uses)
	}
	for _, n := range names {
		if s.Store().Uses(n) != uses[n] {
			t.Error(n, s.Store().Uses(n), uses[n])
		}
	}
}

// P35.6
func TestAnyTurns(t *testing.T) {
	for seed := range 60 {
		ch := chance.Chance(seed)
		next := ch.Next
		s := fresh(1+seed%3, 1+seed%2)
		sizes := []int{2, 3, 4, 8, 17}
		var calls [5][10][3]int
		for i := range calls {
			for j := range calls[i] {
				calls[i][j] = [3]int{next(6), sizes[next(5)], next(2)}
			}
		}
		var open []*Handle
		one := func(th *duty.Thread) {
			for _, call := range calls[th.ID()] {
				k := api.Key{N: call[1], Dir: call[2]}
				var h *Handle
				switch call[0] {
				case 0:
					s.Evict(th, k)
				case 1:
					h, _ = s.Lookup(th, k)
				case 2:
					s.Import(th, "dulcimer 1\n2 0 naive2\n3 1 naive3\n8 0 naive8\n17 0 naive17\n")
				default:
					h, _ = s.Get(th, k)
				}
				if h == nil {
					continue
				}
				x := make([]uint64, k.N)
				x[k.N-1], x[0] = 5, uint64(call[0])
				want, _ := dft.Dft(x, k.Dir)
				if y, e := h.Execute(th, x); e != api.OK || !slices.Equal(y, want) {
					t.Error("Execute", k, e)
				}
				if call[0]%2 == 0 {
					open = append(open, h)
				} else if e := h.Release(th); e != api.OK {
					t.Error("Release", e)
				}
			}
		}
		picks := ch.Picks(500, 5)
		run(t, picks, 3000, one, one, one, one, one)
		counted(t, s, open)
		for _, x := range s.Known() {
			if entry.Check(x) != api.OK || desc.Nodes(x.Desc) < 1 {
				t.Error(x)
			}
		}
	}
}
