package stripe

import (
	"math"
	"slices"
	"testing"

	"dulcimer/api"
	"dulcimer/chance"
	"dulcimer/desc"
	"dulcimer/dft"
	"dulcimer/duty"
	"dulcimer/entry"
	"dulcimer/plan"
	"dulcimer/store"
	"dulcimer/tick"
	"dulcimer/watch"
)

type fun = func(t *duty.Thread)

func key(n int) api.Key { return api.Key{N: n} }

func leaf(kind, n int) api.Desc { return api.Desc{Kind: kind, N: n} }

func known(n, kind int) api.Entry { return api.Entry{Key: key(n), Desc: leaf(kind, n)} }

func fresh(room int, ticks ...int) (*Stripe, *store.Store, *tick.Script) {
	s, c := store.New(), tick.New(ticks)
	x, _ := New(room, s, c)
	return x, s, c
}

func run(t *testing.T, picks []int, rounds int, fs ...fun) duty.Report {
	t.Helper()
	return watch.Run(t.Error, picks, rounds, fs...)
}

// P34.1
func TestNew(t *testing.T) {
	for _, room := range []int{0, 65, -1, math.MinInt} {
		if x, e := New(room, store.New(), nil); x != nil || e != api.ErrArg {
			t.Error(room, e)
		}
	}
	if x, e := New(0, nil, nil); x != nil || e != api.ErrNil {
		t.Error(e)
	}
	x, _, _ := fresh(1)
	if len(x.Keys())+len(x.Known())+len(x.Flying()) != 0 || x.Stats() != (Stats{}) {
		t.Error("a new one")
	}
	run(t, nil, 20, func(th *duty.Thread) {
		if x.Unlock(th) != api.ErrState || x.Lock(th) != api.OK || x.Lock(th) != api.ErrState || x.Unlock(th) != api.OK || x.Lock(nil) != api.ErrNil {
			t.Error("Lock, Unlock")
		}
	})
}

// P34.2
func TestGet(t *testing.T) {
	x, s, c := fresh(2, 1, 9, 1, 9, 1, 1, 1, 9)
	run(t, nil, 500, func(th *duty.Thread) {
		p, e1 := x.Get(th, key(8))
		q, e2 := x.Get(th, key(8))
		if e1 != api.OK || e2 != api.OK || p != q || p.Uses() != 3 || x.Stats() != (Stats{1, 1, 1}) {
			t.Error("the chapter's example", e1, e2, x.Stats())
		}
		// Its clock says the third one of Naive, Stock, Split.
		if p.Desc().Kind != api.Split || c.Asked() != 8 || !desc.Same(x.Known()[0].Desc, p.Desc()) {
			t.Error("chosen", p.Desc(), c.Asked())
		}
		x.Get(th, key(4))
		if r, ok := x.Find(th, key(8)); !ok || r != p || p.Uses() != 4 || !slices.Equal(x.Keys(), []api.Key{key(8), key(4)}) {
			t.Error("Find", ok, x.Keys())
		}
		x.Get(th, key(4))
		if !slices.Equal(x.Keys(), []api.Key{key(4), key(8)}) {
			t.Error("to the front", x.Keys())
		}
		x.Get(th, key(2))
		if !slices.Equal(x.Keys(), []api.Key{key(2), key(4)}) || p.Uses() != 3 || x.Stats() != (Stats{3, 3, 3}) {
			t.Error("the last one is dropped", x.Keys(), p.Uses(), x.Stats())
		}
		if r, ok := x.Find(th, key(8)); ok || r != nil {
			t.Error("Find of none")
		}
		// What is known is not measured again.
		if r, _ := x.Get(th, key(8)); r == p || !desc.Same(r.Desc(), p.Desc()) || x.Stats() != (Stats{3, 4, 4}) {
			t.Error("again", x.Stats())
		}
		if !x.Evict(th, key(8)) || x.Evict(th, key(8)) || !slices.Equal(x.Keys(), []api.Key{key(2)}) || len(x.Known()) != 3 {
			t.Error("Evict", x.Keys())
		}
		for range 3 {
			p.Drop(th)
		}
		if p.Uses() != 0 || len(x.Flying()) != 0 || s.Dirty() != 0 {
			t.Error("its uses", p.Uses())
		}
	})
}

// P34.2
func TestWrong(t *testing.T) {
	var none *Stripe
	x, s, c := fresh(2)
	run(t, nil, 99, func(th *duty.Thread) {
		for _, a := range []struct {
			x *Stripe
			t *duty.Thread
			k api.Key
			e api.Errno
		}{{none, th, key(7), api.ErrNil}, {x, nil, key(7), api.ErrNil}, {x, th, api.Key{N: 7, Dir: 9}, api.ErrSize}, {x, th, api.Key{N: 8, Dir: 2}, api.ErrArg}, {x, th, api.Key{N: 8, Dir: -1}, api.ErrArg}} {
			if p, e := a.x.Get(a.t, a.k); p != nil || e != a.e {
				t.Error(a, e)
			}
		}
		if p, ok := none.Find(th, key(8)); p != nil || ok {
			t.Error("Find")
		}
		if p, ok := x.Find(nil, key(8)); p != nil || ok {
			t.Error("Find")
		}
		if none.Evict(th, key(8)) || x.Evict(nil, key(8)) || none.Lock(th) != api.ErrNil || none.Unlock(th) != api.ErrNil {
			t.Error("nil")
		}
		x.Lock(th)
		if p, e := x.Get(th, key(8)); p != nil || e != api.ErrState {
			t.Error("Get by who has the lock", e)
		}
		x.Unlock(th)
	})
	if len(none.Known())+len(none.Keys())+len(none.Flying()) != 0 || none.Stats() != (Stats{}) || x.Stats() != (Stats{}) || c.Asked() != 0 || s.Made() != 0 {
		t.Error("looks")
	}
}

// P34.3
func TestMerge(t *testing.T) {
	x, _, _ := fresh(2)
	var none *Stripe
	run(t, nil, 99, func(th *duty.Thread) {
		l := []api.Entry{known(8, api.Naive), known(2, api.Small)}
		if n, e := x.Merge(th, l); n != 0 || e != api.ErrState {
			t.Error(n, e)
		}
		_, e1 := x.Merge(nil, l)
		_, e2 := none.Merge(th, l)
		x.Lock(th)
		n, e3 := x.Merge(th, l)
		m, e4 := x.Merge(th, []api.Entry{known(8, api.Stock), known(4, api.Small)})
		_, e5 := x.Merge(th, []api.Entry{known(16, api.Stock), known(7, 1)})
		x.Unlock(th)
		if e1 != api.ErrNil || e2 != api.ErrNil || n != 2 || e3 != api.OK || m != 1 || e4 != api.OK || e5 != api.ErrSize {
			t.Error(e1, e2, n, e3, m, e4, e5)
		}
		if !slices.EqualFunc(x.Known(), []api.Entry{known(2, api.Small), known(4, api.Small), known(8, api.Naive)}, entry.Same) {
			t.Error(x.Known())
		}
		if p, _ := x.Get(th, key(8)); p.Desc().Kind != api.Naive || x.Stats() != (Stats{0, 1, 1}) {
			t.Error("by what is known", p.Desc(), x.Stats())
		}
	})
}

// P34.2: who comes while somebody is getting one waits, and has it, though it is evicted ahead of its turn.
func TestJoin(t *testing.T) {
	for _, evict := range []bool{false, true} {
		x, s, _ := fresh(1)
		var got [3]*plan.Plan
		get := func(th *duty.Thread) {
			p, e := x.Get(th, key(8))
			if e != api.OK {
				t.Error(e)
			}
			got[th.ID()] = p
			if y, e := p.Run(th, make([]uint64, 8)); e != api.OK || len(y) != 8 {
				t.Error("Run", e)
			}
		}
		other := func(th *duty.Thread) {
			for len(x.Keys()) == 0 {
				th.Yield()
			}
			if evict && !x.Evict(th, key(8)) {
				t.Error("Evict")
			}
		}
		r := run(t, []int{0, 0, 1, 1, 2, 2, 0, 0, 0, 0, 0, 0, 0, 0, 3, 3, 3, 3, 3, 3, 0, 0, 0, 0, 3, 3, 3, 3, 3, 3}, 99, get, get, get, other)
		want := 4
		if evict {
			want = 3
		}
		if got[0] != got[1] || got[0] != got[2] || got[0].Uses() != want || x.Stats() != (Stats{1, 1, 1}) || s.Dirty() != 0 {
			t.Error("one plan", got, got[0].Uses(), x.Stats(), r)
		}
	}
}

// P34.2: what becomes known meanwhile is what is built.
func TestMeanwhile(t *testing.T) {
	for _, c := range []struct {
		kind, built int
	}{{api.Naive, 2}, {api.Stock, 1}} {
		x, s, _ := fresh(1)
		var p *plan.Plan
		run(t, []int{0, 0, 1, 1, 1}, 99,
			func(th *duty.Thread) {
				p, _ = x.Get(th, key(8))
			},
			func(th *duty.Thread) {
				if !slices.Equal(x.Flying(), []api.Key{key(8)}) || len(x.Known()) != 0 {
					t.Error("Flying", x.Flying(), x.Known())
				}
				x.Lock(th)
				x.Merge(th, []api.Entry{known(8, c.kind)})
				x.Unlock(th)
			})
		if p.Desc().Kind != c.kind || x.Stats() != (Stats{1, c.built, 1}) || p.Uses() != 2 || len(s.Names()) != 1 || s.Uses(s.Names()[0]) != 1 || s.Dirty() != 0 || len(x.Known()) != 1 || x.Known()[0].Desc.Kind != c.kind {
			t.Error(c, p.Desc(), x.Stats(), s.Names())
		}
	}
}

// P34.2: no turn passes in which something is known by measuring, and not kept.
func TestKnownWhenKept(t *testing.T) {
	x, _, _ := fresh(4)
	done := false
	run(t, nil, 200, func(th *duty.Thread) {
		for _, n := range []int{8, 16, 2} {
			x.Get(th, key(n))
		}
		done = true
	}, func(th *duty.Thread) {
		for !done {
			if len(x.Known()) != len(x.Keys()) {
				t.Error("known, and not kept", x.Known(), x.Keys())
			}
			th.Yield()
		}
	})
}

// P34.4
func TestAnyTurns(t *testing.T) {
	for seed := range 60 {
		ch := chance.Chance(seed)
		next := ch.Next
		room := 1 + seed%3
		x, s, c := fresh(room, 3, 1, 4, 1, 5, 9, 2, 6)
		sizes := []int{2, 3, 4, 8, 17}
		var calls [5][12][2]int
		for i := range calls {
			for j := range calls[i] {
				calls[i][j] = [2]int{next(6), sizes[next(5)]}
			}
		}
		one := func(th *duty.Thread) {
			for _, call := range calls[th.ID()] {
				k := key(call[1])
				var p *plan.Plan
				switch call[0] {
				case 0:
					x.Evict(th, k)
				case 1:
					p, _ = x.Find(th, k)
				case 2:
					x.Lock(th)
					x.Merge(th, []api.Entry{{Key: k, Desc: leaf(api.Naive, k.N)}})
					x.Unlock(th)
				default:
					var e api.Errno
					if p, e = x.Get(th, k); e != api.OK {
						t.Error("Get", e)
					}
				}
				if len(x.Keys()) > room {
					t.Error("more than room")
				}
				if p == nil {
					continue
				}
				v := make([]uint64, k.N)
				v[k.N-1] = 5
				want, _ := dft.Dft(v, 0)
				if y, e := p.Run(th, v); e != api.OK || !slices.Equal(y, want) {
					t.Error("Run", e)
				}
				if e := p.Drop(th); e != api.OK {
					t.Error("Drop", e)
				}
			}
		}
		picks := ch.Picks(600, 5)
		run(t, picks, 3000, one, one, one, one, one)
		st := x.Stats()
		if st.Measured > len(x.Known()) || st.Built > 2*st.Inserted || len(x.Flying()) != 0 || s.Dirty() != 0 || c.Asked()%2 != 0 {
			t.Error(seed, st, len(x.Known()))
		}
		for _, k := range x.Keys() {
			if p, ok := x.Peek(k); !ok || p.Uses() != 1 {
				t.Error("uses", k, p.Uses())
			}
		}
		if len(x.Keys()) == 0 && len(s.Names()) != 0 {
			t.Error("tables are left", s.Names())
		}
	}
}
