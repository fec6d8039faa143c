package slim

import (
	"math"
	"reflect"
	"slices"
	"testing"

	"dulcimer/api"
	"dulcimer/chance"
	"dulcimer/draw"
	"dulcimer/hist"
	"dulcimer/play"
)

func get(n int) api.Call { return api.Call{Kind: api.CallGet, Key: api.Key{N: n}} }

func two() play.Script {
	return play.Script{Stripes: 1, Room: 1, Clients: [][]api.Call{{get(8), {Kind: api.CallExecute, X: []uint64{1, 2, 3, 4, 5, 6, 7, 8}}}, {get(2)}}, Picks: slices.Repeat([]int{0, 1, 5, -3}, 20), Ticks: []int{1, 2}}
}

// P46.1
func TestCloneHead(t *testing.T) {
	s := two()
	for _, c := range []play.Script{Clone(s), Head(s, 80), Head(s, math.MaxInt)} {
		if !reflect.DeepEqual(c, s) {
			t.Error("not the same", c)
		}
		c.Clients[0][1].X[0], c.Clients[1][0].Kind, c.Picks[0], c.Ticks[0] = 9, 9, 9, 9
		c.Clients[0] = nil
		if !reflect.DeepEqual(s, two()) {
			t.Fatal("shared")
		}
	}
	for n, want := range map[int]int{-1: 0, 0: 0, 1: 1, 79: 79, 80: 80, 81: 80, math.MinInt: 0} {
		if h := Head(s, n); !slices.Equal(h.Picks, s.Picks[:want]) || !reflect.DeepEqual(h.Clients, s.Clients) || !slices.Equal(h.Ticks, s.Ticks) || h.Room != 1 {
			t.Error(n, h)
		}
	}
}

// P46.1
func TestOrderEven(t *testing.T) {
	if s, e := Even(two(), 2); e != api.OK || !slices.Equal(s.Picks, []int{0, 1, 0, 1}) || len(s.Clients) != 2 || s.Ticks[1] != 2 {
		t.Error("the chapter's example", s, e)
	}
	none := play.Script{Stripes: 1, Room: 1, Picks: []int{4}}
	for _, c := range []struct {
		s      play.Script
		rounds int
		many   int
		e      api.Errno
	}{{two(), -1, 0, api.ErrArg}, {two(), math.MinInt, 0, api.ErrArg}, {two(), 0, 0, api.OK}, {two(), 2048, 4096, api.OK}, {two(), 2049, 0, api.ErrBig}, {two(), math.MaxInt, 0, api.ErrBig}, {none, math.MaxInt, 0, api.OK}, {play.Script{Clients: make([][]api.Call, 3)}, 1366, 0, api.ErrBig}, {play.Script{Clients: make([][]api.Call, 3)}, 1365, 4095, api.OK}} {
		if s, e := Even(c.s, c.rounds); e != c.e || len(s.Picks) != c.many {
			t.Error(c.rounds, len(s.Picks), e)
		}
	}
	r, _ := play.Run(two())
	if s, e := Order(two()); e != api.OK || !slices.Equal(s.Picks, r.Order) || !reflect.DeepEqual(s.Clients, two().Clients) {
		t.Error("Order", s, e)
	}
	for _, c := range []struct {
		s play.Script
		e api.Errno
	}{{play.Script{}, api.ErrArg}, {play.Script{Stripes: 1, Room: 1, Picks: make([]int, 5000)}, api.ErrBig}} {
		s, e := Order(c.s)
		l, f := Least(c.s, func(play.Report) bool { return true })
		if e != c.e || f != c.e || !reflect.DeepEqual(s, play.Script{}) || !reflect.DeepEqual(l, play.Script{}) {
			t.Error(e, f)
		}
	}
}

// P46.2
func TestLeast(t *testing.T) {
	s := two()
	for _, is := range []func(play.Report) bool{
		func(r play.Report) bool { return true },
		func(r play.Report) bool { return len(r.Ops) == 2 },
		func(r play.Report) bool { return len(r.Ops) == 3 && r.Pending == 0 },
		func(r play.Report) bool { return r.Pending == 1 && len(r.Handles) == 1 },
		func(r play.Report) bool { return len(r.Order) > 0 && r.Pending == 0 },
		func(r play.Report) bool { return r.Pending > 9 },
	} {
		want := -1
		for n := range len(s.Picks) + 1 {
			if r, _ := play.Run(Head(s, n)); is(r) {
				want = n
				break
			}
		}
		got, e := Least(s, is)
		if want < 0 && (e != api.ErrNone || !reflect.DeepEqual(got, play.Script{})) || want >= 0 && (e != api.OK || !reflect.DeepEqual(got, Head(s, want))) {
			t.Error(want, len(got.Picks), e)
		}
	}
	if got, e := Least(play.Script{}, nil); e != api.ErrNil || len(got.Picks) != 0 {
		t.Error(e)
	}
}

func full() play.Report {
	r, _ := play.Run(play.Script{Stripes: 2, Room: 1, Clients: [][]api.Call{{get(96), get(8)}}, Picks: make([]int, 90)})
	return r
}

// P46.3
func TestDiffSame(t *testing.T) {
	r := full()
	if Diff(r.Ops, full().Ops) != -1 || Diff(nil, nil) != -1 || Diff(r.Ops, nil) != 0 || Diff(nil, r.Ops) != 0 || Diff(r.Ops, r.Ops[:1]) != 1 {
		t.Error("Diff")
	}
	other := full().Ops
	other[1].Told.N++
	if Diff(r.Ops, other) != 1 || Diff(other, r.Ops) != 1 {
		t.Error("Diff of what was told")
	}
	if !Same(full(), full()) || !Same(play.Report{Kept: [][]api.Key{nil}}, play.Report{Kept: [][]api.Key{{}}}) {
		t.Error("Same")
	}
	for i, change := range []func(r *play.Report){
		func(r *play.Report) { r.Ops[0].Call.Text = "x" }, func(r *play.Report) { r.Order[0]++ }, func(r *play.Report) { r.Pending++ }, func(r *play.Report) { r.Known[1].Desc.Kids = make([]api.Desc, 1) }, func(r *play.Report) { r.Known = r.Known[1:] }, func(r *play.Report) { r.Kept[0] = nil }, func(r *play.Report) { r.Kept = append(r.Kept, nil) },
		func(r *play.Report) { r.Tables[0].Dir++ }, func(r *play.Report) { r.Uses[0]++ }, func(r *play.Report) { r.Dirty++ }, func(r *play.Report) { r.Stats.Built++ }, func(r *play.Report) { r.Handles[0].First++ }, func(r *play.Report) { r.Handles[0].X.Key.N++ }, func(r *play.Report) { r.Handles[0].X.Desc.Kids[0].N++ }, func(r *play.Report) { r.Handles[1].Gone = true }, func(r *play.Report) { r.Handles[1].Keeps = !r.Handles[1].Keeps }, func(r *play.Report) { r.Handles[1].Ref.Who++ }, func(r *play.Report) { r.Handles = nil },
	} {
		r := full()
		change(&r)
		if Same(r, full()) || Same(full(), r) {
			t.Error("the same", i)
		}
	}
}

// P46.4
func TestLaws(t *testing.T) {
	var c chance.Chance = 12
	for range 100 {
		s := draw.Script(&c, c.Next(30))
		whole, _ := play.Run(s)
		o, e := Order(s)
		again, f := play.Run(o)
		if e != api.OK || f != api.OK || !Same(whole, again) {
			t.Error("Order's script", e, f)
		}
		h, _ := play.Run(Head(s, c.Next(100)))
		end := 0
		for _, o := range h.Ops {
			end = max(end, o.From+1, o.To+1)
		}
		if !hist.Same(h.Ops, hist.Cut(whole.Ops, end)) {
			t.Error("a Head's", h.Ops)
		}
	}
}
