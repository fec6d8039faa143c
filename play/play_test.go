package play_test

import (
	"math"
	"slices"
	"testing"

	"dulcimer/api"
	"dulcimer/chance"
	"dulcimer/desc"
	"dulcimer/dft"
	"dulcimer/draw"
	"dulcimer/entry"
	"dulcimer/hist"
	"dulcimer/lin"
	"dulcimer/need"
	"dulcimer/play"
	"dulcimer/stripe"
)

func key(n int) api.Key { return api.Key{N: n} }

func of(kind, n int) api.Call { return api.Call{Kind: kind, Key: key(n)} }

func execute(who, at int, x ...uint64) api.Call {
	return api.Call{Kind: api.CallExecute, Of: api.Ref{Who: who, At: at}, X: x}
}

func release(who, at int) api.Call {
	return api.Call{Kind: api.CallRelease, Of: api.Ref{Who: who, At: at}}
}

func picks(n int, who ...int) []int { return slices.Repeat(who, n) }

// P39.1
func TestCheck(t *testing.T) {
	calls := func(n int) []api.Call { return make([]api.Call, n) }
	for i, c := range []struct {
		s play.Script
		e api.Errno
	}{
		{play.Script{Stripes: 1, Room: 1}, api.OK}, {play.Script{Stripes: 16, Room: 64, Clients: make([][]api.Call, 8), Picks: make([]int, 4096)}, api.OK}, {play.Script{Stripes: 1, Room: 1, Clients: [][]api.Call{calls(16)}}, api.OK},
		{play.Script{}, api.ErrArg}, {play.Script{Stripes: 17, Room: 1}, api.ErrArg}, {play.Script{Stripes: 1, Room: 65, Clients: make([][]api.Call, 9)}, api.ErrArg},
		{play.Script{Stripes: 1, Room: 1, Clients: make([][]api.Call, 9)}, api.ErrBig}, {play.Script{Stripes: 1, Room: 1, Clients: [][]api.Call{nil, calls(17)}}, api.ErrBig}, {play.Script{Stripes: 1, Room: 1, Picks: make([]int, 4097)}, api.ErrBig},
	} {
		_, e1 := play.Run(c.s)
		r, e2 := play.Drain(c.s, 3)
		if play.Check(c.s) != c.e || e1 != c.e || e2 != c.e || c.e != api.OK && len(r.Kept)+len(r.Ops) != 0 {
			t.Error(i, play.Check(c.s), e1, e2)
		}
	}
	if r, e := play.Run(play.Script{Stripes: 3, Room: 1, Picks: []int{0, 4, -1}}); e != api.OK || len(r.Kept) != 3 || len(r.Order)+len(r.Ops) != 0 {
		t.Error("no clients", r, e)
	}
}

// P39.2, P39.3, P39.4
func TestRun(t *testing.T) {
	s := play.Script{Stripes: 1, Room: 1, Clients: [][]api.Call{{of(api.CallGet, 2), execute(0, 0, 1, 2)}}, Picks: picks(60, 0)}
	r, e := play.Run(s)
	if e != api.OK || len(r.Ops) != 2 || r.Pending != 0 || !slices.Equal(r.Ops[1].Told.Y, []uint64{3, api.P - 1}) || r.Ops[1].From != 2 || r.Ops[1].To != 3 {
		t.Error("the chapter's example", r, e)
	}
	if len(r.Handles) != 1 || r.Handles[0].Ref != (api.Ref{}) || r.Handles[0].Gone || !r.Handles[0].Keeps || r.Handles[0].First != 0 || !entry.Same(r.Handles[0].X, r.Known[0]) || !desc.Same(r.Known[0].Desc, r.Ops[0].Told.Desc) {
		t.Error("Handles", r.Handles)
	}
	if len(r.Known) != 1 || len(r.Kept) != 1 || !slices.Equal(r.Kept[0], []api.Key{key(2)}) || r.Stats != (stripe.Stats{Measured: 1, Built: 1, Inserted: 1}) || len(r.Tables) != len(r.Uses) || r.Dirty != 0 || len(r.Order) == 0 || slices.Max(r.Order) != 0 {
		t.Error("Report", r)
	}
}

// P39.3: just one yield ahead of a call, and calls that may not be are passed over.
func TestLeftOut(t *testing.T) {
	clients := [][]api.Call{
		{{Kind: 0}, execute(0, 0), release(5, 5), {Kind: 8}, {Kind: -1}, of(api.CallLookup, 8), execute(0, 5), of(api.CallGet, 7), {Kind: api.CallEvict, Key: api.Key{N: 8, Dir: 3}}, execute(0, 7, 1), {Kind: api.CallImport, Text: "dulcimer 1\n7 0 small7\n"}, {Kind: api.CallImport, Text: "dulcimer 1\n8 0 naive8\n"}, {Kind: api.CallExport}},
	}
	r, e := play.Run(play.Script{Stripes: 2, Room: 1, Clients: clients, Picks: picks(60, 0)})
	want := []api.Op{
		{Ref: api.Ref{At: 5}, Call: clients[0][5], Told: api.Told{E: api.ErrNone}, From: 0, To: 1},
		{Ref: api.Ref{At: 7}, Call: clients[0][7], Told: api.Told{E: api.ErrSize}, From: 2, To: 3},
		{Ref: api.Ref{At: 8}, Call: clients[0][8], Told: api.Told{E: api.ErrArg}, From: 4, To: 5},
		{Ref: api.Ref{At: 10}, Call: clients[0][10], Told: api.Told{E: api.ErrSize, Line: 2}, From: 6, To: 7},
		{Ref: api.Ref{At: 11}, Call: clients[0][11], Told: api.Told{N: 1}, From: 8, To: 9},
		{Ref: api.Ref{At: 12}, Call: clients[0][12], Told: api.Told{Text: "dulcimer 1\n8 0 naive8\n"}, From: 10, To: 11},
	}
	if e != api.OK || !hist.Same(r.Ops, want) || len(r.Handles) != 0 {
		t.Error(r.Ops, e)
	}
	r, _ = play.Run(play.Script{Stripes: 1, Room: 1, Clients: [][]api.Call{{{Kind: 0}, {Kind: 0}, {Kind: 0}}}, Picks: picks(9, 0)})
	if !slices.Equal(r.Order, []int{0, 0, 0, 0}) || len(r.Ops) != 0 {
		t.Error("a yield ahead of each", r.Order)
	}
}

// P39.3: a handle of another client's call, when it has come back.
func TestOfAnother(t *testing.T) {
	s := play.Script{Stripes: 1, Room: 1, Clients: [][]api.Call{{of(api.CallGet, 2)}, {execute(0, 0, 1, 2), execute(0, 0, 1, 2), execute(0, 0, 1), release(0, 0), release(0, 0), execute(0, 0, 1, 2)}}}
	s.Picks = append(append([]int{1, 1}, picks(20, 0)...), picks(40, 1)...)
	r, _ := play.Run(s)
	var told []api.Errno
	for _, o := range r.Ops[1:] {
		told = append(told, o.Told.E)
	}
	if len(r.Ops) != 6 || r.Ops[1].Ref != (api.Ref{Who: 1, At: 1}) || !slices.Equal(told, []api.Errno{api.OK, api.ErrLen, api.OK, api.ErrReleased, api.ErrReleased}) || len(r.Handles) != 1 || !r.Handles[0].Gone {
		t.Error(r.Ops, r.Handles)
	}
}

// P39.2, P39.3: at whatever pick it is left.
func TestPending(t *testing.T) {
	s := play.Script{Stripes: 1, Room: 1, Clients: [][]api.Call{{of(api.CallGet, 8), of(api.CallEvict, 8)}, {of(api.CallGet, 8), execute(1, 0, 1, 2, 3, 4, 5, 6, 7, 8)}}, Ticks: []int{1, 5, 1, 2}}
	begun := 0
	for n := range 60 {
		s.Picks = picks(n, 0, 1)
		r, e := play.Run(s)
		pending := 0
		for _, o := range r.Ops {
			if o.To == -1 {
				pending++
				if o.Told.E != 0 || len(o.Told.Desc.Kids)+o.Told.Desc.N+o.Told.N+len(o.Told.Y) != 0 {
					t.Error("told, and pending", o)
				}
			}
		}
		if e != api.OK || r.Pending != pending || hist.Check(r.Ops) != api.OK || len(r.Ops) < begun {
			t.Error(n, r, e)
		}
		begun = len(r.Ops)
		d, e := play.Drain(s, 400)
		if e != api.OK || d.Pending != 0 || len(d.Ops) != len(r.Ops) || !slices.Equal(d.Order[:len(r.Order)], r.Order) {
			t.Error("Drain", n, d, e)
		}
		// What had ended by the picks is told alike.
		for i, o := range r.Ops {
			if o.To != -1 && !hist.Same([]api.Op{o}, d.Ops[i:i+1]) {
				t.Error("another run", n, o, d.Ops[i])
			}
		}
		if none, _ := play.Drain(s, -4); !hist.Same(none.Ops, r.Ops) || !slices.Equal(none.Order, r.Order) {
			t.Error("no rounds", n)
		}
	}
	if begun != 4 {
		t.Error(begun)
	}
}

// P39.2: behind the picks a client has just one turn more when its call has come back.
func TestDrainTurns(t *testing.T) {
	s := play.Script{Stripes: 1, Room: 1, Clients: [][]api.Call{{of(api.CallEvict, 8), of(api.CallEvict, 8), of(api.CallEvict, 8)}, {{Kind: 0}, {Kind: 0}}}, Picks: []int{0, 0}}
	r, _ := play.Drain(s, 50)
	if len(r.Ops) != 1 || !slices.Equal(r.Order, []int{0, 0, 0, 1, 0, 1}) {
		t.Error(r.Ops, r.Order)
	}
}

// P39.4: several handles of one plan.
func TestHandles(t *testing.T) {
	s := play.Script{Stripes: 1, Room: 1, Clients: [][]api.Call{{of(api.CallGet, 8), of(api.CallLookup, 8), of(api.CallGet, 4), of(api.CallGet, 8), of(api.CallGet, 4), release(0, 1)}}, Picks: picks(200, 0)}
	r, _ := play.Run(s)
	want := []play.Handle{{Ref: api.Ref{At: 0}}, {Ref: api.Ref{At: 1}, Gone: true}, {Ref: api.Ref{At: 2}, First: 2}, {Ref: api.Ref{At: 3}, First: 3}, {Ref: api.Ref{At: 4}, First: 4, Keeps: true}}
	for i, h := range r.Handles {
		if i >= len(want) || h.Ref != want[i].Ref || h.Gone != want[i].Gone || h.Keeps != want[i].Keeps || h.First != want[i].First || entry.Check(h.X) != api.OK {
			t.Error(i, h)
		}
	}
	if len(r.Handles) != len(want) {
		t.Error(r.Handles)
	}
}

// P39.5
func TestAny(t *testing.T) {
	var c chance.Chance = 3
	for i := range 1500 {
		s := draw.Script(&c, 1+c.Next(12))
		a, e1 := play.Run(s)
		b, e2 := play.Drain(s, 2000)
		if e1 != api.OK || e2 != api.OK || b.Pending != 0 {
			t.Fatal(i, s, e1, e2)
		}
		for _, r := range []play.Report{a, b} {
			order, plans, e := lin.Find(s.Stripes, s.Room, r.Ops)
			if e != api.OK || !lin.Fits(s.Stripes, s.Room, r.Ops, order, plans) {
				t.Fatal("no order", i, s, r.Ops, e)
			}
			for _, row := range r.Kept {
				if len(row) > s.Room {
					t.Error("more than Room")
				}
			}
			exact(t, r)
		}
		counted(t, b)
	}
}

// exact looks at the transforms.
func exact(t *testing.T, r play.Report) {
	t.Helper()
	for _, o := range r.Ops {
		if o.Call.Kind != api.CallExecute || o.To == -1 || o.Told.E != api.OK {
			continue
		}
		i := slices.IndexFunc(r.Handles, func(h play.Handle) bool { return h.Ref == o.Call.Of })
		if want, _ := dft.Dft(o.Call.X, r.Handles[i].X.Key.Dir); !slices.Equal(o.Told.Y, want) {
			t.Error("no transform", o)
		}
	}
}

// counted looks at the tables' uses, where nothing is pending.
func counted(t *testing.T, r play.Report) {
	t.Helper()
	uses := map[api.Name]int{}
	count := func(x api.Entry) {
		names, _ := need.Tables(x.Desc, x.Key.Dir)
		for _, n := range names {
			uses[n]++
		}
	}
	for _, row := range r.Kept {
		for _, k := range row {
			count(r.Known[slices.IndexFunc(r.Known, func(x api.Entry) bool { return x.Key == k })])
		}
	}
	had := map[int]int{}
	for _, h := range r.Handles {
		if !h.Gone && !h.Keeps && had[h.First] == 0 {
			had[h.First]++
			count(h.X)
		}
	}
	if len(uses) != len(r.Tables) || r.Dirty != 0 || r.Stats.Measured > len(r.Known) || r.Stats.Built > 2*r.Stats.Inserted {
		t.Error("uses", uses, r.Tables, r.Uses, r.Dirty, r.Stats)
	}
	for i, n := range r.Tables {
		if r.Uses[i] != uses[n] {
			t.Error("uses", n, r.Uses[i], uses[n])
		}
	}
}

// What is handed in is neither changed nor kept, and a run can be had again.
func TestAgain(t *testing.T) {
	var c chance.Chance = 8
	for range 40 {
		s := draw.Script(&c, 10)
		a, _ := play.Drain(s, 500)
		for i := range a.Ops {
			clear(a.Ops[i].Call.X)
			clear(a.Ops[i].Told.Desc.Kids)
		}
		b, _ := play.Drain(s, 500)
		d, _ := play.Drain(s, math.MaxInt)
		if !hist.Same(b.Ops, d.Ops) || len(a.Ops) != len(b.Ops) {
			t.Error("another run")
		}
		for _, o := range b.Ops {
			if len(o.Call.X) > 0 && slices.Max(append(o.Call.X, s.Clients[o.Ref.Who][o.Ref.At].X...)) == 0 {
				t.Error("changed")
			}
		}
	}
}
