package plan

import (
	"slices"
	"testing"

	"dulcimer/api"
	"dulcimer/chance"
	"dulcimer/desc"
	"dulcimer/dft"
	"dulcimer/duty"
	"dulcimer/need"
	"dulcimer/store"
	"dulcimer/watch"
)

func of(kind, n int, kids ...api.Desc) api.Desc { return api.Desc{Kind: kind, N: n, Kids: kids} }

func some() []api.Desc {
	return []api.Desc{of(api.Stock, 4), of(api.Small, 5), of(api.Naive, 6), of(api.Rader, 17, of(api.Stock, 16)), of(api.Split, 16, of(api.Stock, 4), of(api.Blue, 4, of(api.Stock, 8))), of(api.Good, 12, of(api.Stock, 4), of(api.Naive, 3))}
}

// alone runs f as the only thread, to its end, and tells how many turns it had.
func alone(t *testing.T, f func(th *duty.Thread)) int {
	t.Helper()
	return len(watch.Run(t.Error, nil, 10000, f).Order)
}

// P31.1, P31.2, P31.4
func TestBuild(t *testing.T) {
	alone(t, func(th *duty.Thread) {
		for _, d := range some() {
			for dir := range 2 {
				s, k := store.New(), api.Key{N: d.N, Dir: dir}
				names, _ := need.Tables(d, dir)
				p, e := Build(th, s, k, d)
				if e != api.OK || p.Uses() != 1 || p.Key() != k || !desc.Same(p.Desc(), d) || !slices.Equal(p.Tables(), names) {
					t.Fatal("Build", d, e)
				}
				for _, n := range names {
					if s.Uses(n) != 1 {
						t.Error("each once", d, n, s.Uses(n))
					}
				}
				if !p.Use(th) || p.Uses() != 2 {
					t.Error("Use")
				}
				if e := p.Drop(th); e != api.OK || p.Uses() != 1 || len(s.Names()) != len(names) {
					t.Error("Drop", e)
				}
				if e := p.Drop(th); e != api.OK || p.Uses() != 0 || len(s.Names()) != 0 || len(p.Tables()) != 0 {
					t.Error("the last Drop", e, s.Names())
				}
				if e := p.Drop(th); e != api.ErrState || p.Use(th) || p.Uses() != 0 || p.Key() != k || !desc.Same(p.Desc(), d) {
					t.Error("gone", e)
				}
				if y, e := p.Run(th, nil); e != api.ErrState || len(y) != 0 {
					t.Error("Run of one that is gone", e)
				}
			}
		}
	})
}

// P31.1: tables are taken in order.
func TestOrder(t *testing.T) {
	s := store.New()
	d := some()[4]
	names, _ := need.Tables(d, 1)
	watch.Run(t.Error, []int{0, 1, 1, 0, 1, 0, 1, 0, 1, 0, 1}, 0,
		func(th *duty.Thread) { Build(th, s, api.Key{N: 16, Dir: 1}, d) },
		func(th *duty.Thread) {
			for i := range names {
				th.Yield()
				for j, n := range names {
					if s.Uses(n) != map[bool]int{true: 1}[j < i] {
						t.Error(i, n, s.Uses(n))
					}
				}
			}
		},
	)
}

// P31.1
func TestWrong(t *testing.T) {
	var none *Plan
	alone(t, func(th *duty.Thread) {
		s := store.New()
		big := api.Desc{Kids: make([]api.Desc, 60)}
		for _, c := range []struct {
			t *duty.Thread
			s *store.Store
			k api.Key
			d api.Desc
			e api.Errno
		}{
			{nil, s, api.Key{}, big, api.ErrNil}, {th, nil, api.Key{}, big, api.ErrNil}, {th, s, api.Key{N: 7, Dir: 4}, big, api.ErrSize}, {th, s, api.Key{N: 8, Dir: 4}, big, api.ErrArg}, {th, s, api.Key{N: 8}, big, api.ErrBig}, {th, s, api.Key{N: 8}, of(api.Small, 8), api.ErrDesc}, {th, s, api.Key{N: 4}, of(api.Stock, 8), api.ErrDesc},
		} {
			if p, e := Build(c.t, c.s, c.k, c.d); p != nil || e != c.e || len(s.Names()) != 0 {
				t.Error(c, e)
			}
		}
		p, _ := Build(th, s, api.Key{N: 8}, of(api.Stock, 8))
		for _, n := range []int{0, 7, 9} {
			if y, e := p.Run(th, make([]uint64, n)); e != api.ErrLen || len(y) != 0 {
				t.Error(n, e)
			}
		}
		_, e1 := p.Run(nil, make([]uint64, 8))
		_, e2 := none.Run(th, nil)
		if e1 != api.ErrNil || e2 != api.ErrNil || none.Use(th) || p.Use(nil) || none.Drop(th) != api.ErrNil || p.Drop(nil) != api.ErrNil || p.Uses() != 1 {
			t.Error("nil", e1, e2)
		}
	})
	if none.Key() != (api.Key{}) || !desc.Same(none.Desc(), api.Desc{}) || none.Uses() != 0 || len(none.Tables()) != 0 {
		t.Error("looks of nil")
	}
}

// P31.1: what is handed in is not kept, and what is told is new.
func TestCopies(t *testing.T) {
	alone(t, func(th *duty.Thread) {
		d := some()[3]
		p, _ := Build(th, store.New(), api.Key{N: 17}, d)
		d.Kids[0].N = 5
		p.Desc().Kids[0].N = 6
		p.Tables()[0].N = 7
		if !desc.Same(p.Desc(), some()[3]) || p.Tables()[0].N != 17 {
			t.Error(p.Desc(), p.Tables())
		}
	})
}

// P31.3
func TestRun(t *testing.T) {
	for _, d := range some() {
		for dir := range 2 {
			x := chance.Row(d.N, 2)
			want, _ := dft.Dft(x, dir)
			var p *Plan
			build := alone(t, func(th *duty.Thread) { p, _ = Build(th, store.New(), api.Key{N: d.N, Dir: dir}, d) })
			// A plan's lock is free, so that it may be run by a thread of another Run.
			turns := alone(t, func(th *duty.Thread) {
				if y, e := p.Run(th, x); e != api.OK || !slices.Equal(y, want) {
					t.Error("Run", d, dir, e)
				}
			})
			if turns < 2 || turns > 5 || build < 1 {
				t.Error("yields from once to four times", turns)
			}
		}
	}
}

// P31.5: whatever else is built, used and dropped.
func TestAnyTurns(t *testing.T) {
	for seed := range 30 {
		ch := chance.Chance(seed)
		picks := ch.Picks(600, 4)
		s := store.New()
		var shared *Plan
		one := func(th *duty.Thread) {
			for i, d := range some() {
				k := api.Key{N: d.N, Dir: (i + th.ID()) % 2}
				x := chance.Row(d.N, uint64(i))
				want, _ := dft.Dft(x, k.Dir)
				p, e := Build(th, s, k, d)
				if e != api.OK {
					t.Error(e)
				}
				if shared == nil {
					shared = p
					p.Use(th)
				} else if q := shared; q.Use(th) {
					z := chance.Row(q.Key().N, 9)
					w, _ := dft.Dft(z, q.Key().Dir)
					if y, e := q.Run(th, z); e != api.OK || !slices.Equal(y, w) {
						t.Error("shared", e)
					}
					q.Drop(th)
				}
				if y, e := p.Run(th, x); e != api.OK || !slices.Equal(y, want) {
					t.Error("Run", d, e)
				}
				for _, n := range p.Tables() {
					if s.Uses(n) < 1 {
						t.Error("no use", n)
					}
				}
				p.Drop(th)
			}
		}
		watch.Run(t.Error, picks, 2000, one, one, one, one)
		if t.Failed() || shared.Uses() != 1 || !slices.Equal(s.Names(), sorted(shared.Tables())) || s.Dirty() != 0 {
			t.Fatal(seed, shared.Uses(), s.Names())
		}
	}
}

func sorted(l []api.Name) []api.Name {
	slices.SortFunc(l, need.Cmp)
	return l
}
