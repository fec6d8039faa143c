package audit

import (
	"math"
	"slices"
	"testing"

	"dulcimer/api"
	"dulcimer/chance"
	"dulcimer/draw"
	"dulcimer/play"
	"dulcimer/stripe"
)

func key(n int) api.Key { return api.Key{N: n} }

func entryOf(n, kind int) api.Entry {
	return api.Entry{Key: key(n), Desc: api.Desc{Kind: kind, N: n}}
}

func powers(n int) api.Name { return api.Name{Kind: api.TabPowers, N: n} }

// P40.1
func TestDue(t *testing.T) {
	split := api.Entry{Key: api.Key{N: 16, Dir: 1}, Desc: api.Desc{Kind: api.Split, N: 16, Kids: []api.Desc{{Kind: api.Stock, N: 4}, {Kind: api.Stock, N: 4}}}}
	other := entryOf(8, api.Naive)
	r := play.Report{
		Known: []api.Entry{entryOf(8, api.Stock), other, split, entryOf(2, api.Small), entryOf(7, api.Naive)},
		Kept:  [][]api.Key{{key(8), key(4), key(7)}, {{N: 16, Dir: 1}}},
		Handles: []play.Handle{
			{X: other, First: 0}, {X: other, First: 0}, {X: entryOf(64, api.Stock), First: 2, Gone: true}, {X: entryOf(64, api.Stock), First: 2, Keeps: true}, {X: split, First: 4}, {X: split, First: 5}, {X: entryOf(32, api.Small), First: 6}, {X: entryOf(4, api.Small), First: 7, Gone: true}, {X: entryOf(4, api.Stock), First: 7},
		},
	}
	names, uses := Due(r)
	want := []api.Name{powers(4), {Kind: 1, N: 4, Dir: 1}, powers(8), {Kind: 1, N: 16, Dir: 1}}
	if !slices.Equal(names, want) || !slices.Equal(uses, []int{1, 3, 2, 3}) {
		t.Error(names, uses)
	}
	if n := Plans(r); n != 8 {
		t.Error("Plans", n)
	}
	if names, uses := Due(play.Report{}); len(names)+len(uses) != 0 || Plans(play.Report{}) != 0 {
		t.Error("empty")
	}
}

// right is a report of which nothing is so, and its script.
func right(t *testing.T) (play.Script, play.Report) {
	t.Helper()
	s := play.Script{Stripes: 2, Room: 2, Picks: slices.Repeat([]int{0, 1}, 100), Clients: [][]api.Call{
		{{Kind: api.CallGet, Key: key(8)}, {Kind: api.CallGet, Key: key(2)}}, {{Kind: api.CallGet, Key: api.Key{N: 8, Dir: 1}}, {Kind: api.CallExport}},
	}, Ticks: []int{0, 5, 0, 1}}
	r, e := play.Run(s)
	if l := Look(s, r); e != api.OK || len(l) != 0 || r.Pending != 0 || len(r.Tables) < 2 {
		t.Fatal(l, r, e)
	}
	return s, r
}

// P40.2
func TestLook(t *testing.T) {
	if l := Look(play.Script{}, play.Report{}); !slices.Equal(l, []int{2}) {
		t.Error("the chapter's example", l)
	}
	for i, c := range []struct {
		change func(s *play.Script, r *play.Report)
		want   []int
	}{
		{func(s *play.Script, r *play.Report) { r.Ops[0].From = -1 }, []int{1}},
		{func(s *play.Script, r *play.Report) { r.Pending = 1 }, []int{1}},
		{func(s *play.Script, r *play.Report) { r.Ops[0].To, r.Ops[0].Told = -1, api.Told{} }, []int{1}},
		{func(s *play.Script, r *play.Report) { r.Ops[0].Told.E = api.ErrBig }, []int{2}},
		{func(s *play.Script, r *play.Report) {
			for i := range 9 {
				r.Ops = append(r.Ops, api.Op{Ref: api.Ref{Who: 9, At: i}, From: 1000 + 2*i, To: 1001 + 2*i})
			}
			r.Ops[0].Told.E = api.ErrBig
		}, nil},
		{func(s *play.Script, r *play.Report) { s.Room = 65 }, []int{2}},
		{func(s *play.Script, r *play.Report) { r.Uses[0]++ }, []int{3}},
		{func(s *play.Script, r *play.Report) { r.Uses = r.Uses[1:] }, []int{3}},
		{func(s *play.Script, r *play.Report) { r.Tables[0].N++ }, []int{3}},
		{func(s *play.Script, r *play.Report) { r.Uses[0]++; r.Pending = 1 }, []int{1}},
		{func(s *play.Script, r *play.Report) { r.Handles[0].Keeps = false }, []int{3}},
		{func(s *play.Script, r *play.Report) { r.Dirty = 1 }, []int{4}},
		{func(s *play.Script, r *play.Report) { r.Dirty = -1 }, []int{4}},
		{func(s *play.Script, r *play.Report) { r.Kept = append(r.Kept, nil) }, []int{5}},
		{func(s *play.Script, r *play.Report) { s.Room = 1 }, []int{5}},
		{func(s *play.Script, r *play.Report) { r.Kept[0][1] = r.Kept[0][0] }, []int{3, 5}},
		{func(s *play.Script, r *play.Report) { r.Kept[0], r.Kept[1] = r.Kept[1], r.Kept[0] }, []int{5}},
		{func(s *play.Script, r *play.Report) { r.Kept[0] = append(r.Kept[0], key(4)); s.Room = 3 }, []int{5}},
		{func(s *play.Script, r *play.Report) {
			odd := api.Key{N: -1, Dir: -1}
			r.Known = append([]api.Entry{{Key: odd}}, r.Known...)
			r.Kept[1] = append(r.Kept[1], odd)
		}, []int{6}},
		{func(s *play.Script, r *play.Report) { s.Stripes = -1 }, []int{2, 5}},
		{func(s *play.Script, r *play.Report) { s.Stripes = math.MaxInt }, []int{2, 5}},
		{func(s *play.Script, r *play.Report) { r.Known[0], r.Known[1] = r.Known[1], r.Known[0] }, []int{6}},
		{func(s *play.Script, r *play.Report) { r.Known = append(r.Known, entryOf(16, api.Small)) }, []int{6}},
		{func(s *play.Script, r *play.Report) { r.Known = append(r.Known, r.Known[2]) }, []int{6}},
		{func(s *play.Script, r *play.Report) { r.Stats.Measured = 4 }, []int{7}},
		{func(s *play.Script, r *play.Report) { r.Stats.Built = 7 }, []int{7}},
		{func(s *play.Script, r *play.Report) { r.Stats.Built = 6 }, nil},
		{func(s *play.Script, r *play.Report) {
			r.Stats = stripe.Stats{Built: math.MaxInt, Inserted: math.MaxInt}
		}, nil},
		{func(s *play.Script, r *play.Report) { r.Stats = stripe.Stats{Built: 5, Inserted: math.MinInt} }, []int{7}},
		{func(s *play.Script, r *play.Report) {
			r.Stats = stripe.Stats{Built: math.MinInt, Inserted: math.MinInt}
		}, []int{7}},
		{func(s *play.Script, r *play.Report) {
			r.Stats = stripe.Stats{Built: math.MinInt, Inserted: math.MinInt / 2}
		}, nil},
		{func(s *play.Script, r *play.Report) { r.Stats = stripe.Stats{Built: -3, Inserted: -2} }, []int{7}},
		{func(s *play.Script, r *play.Report) { r.Stats = stripe.Stats{Built: -3, Inserted: -1} }, nil},
	} {
		s, r := right(t)
		c.change(&s, &r)
		if l := Look(s, r); !slices.Equal(l, c.want) {
			t.Error(i, l, c.want)
		}
	}
}

// P40.3
func TestNothing(t *testing.T) {
	var c chance.Chance = 3
	for i := range 600 {
		s := draw.Script(&c, 1+c.Next(20))
		a, e1 := play.Run(s)
		b, e2 := play.Drain(s, c.Next(3000))
		if e1 != api.OK || e2 != api.OK || len(Look(s, a)) != 0 || len(Look(s, b)) != 0 {
			t.Fatal(i, s, e1, e2, Look(s, a), Look(s, b))
		}
	}
}
