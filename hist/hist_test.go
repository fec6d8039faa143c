package hist

import (
	"math"
	"slices"
	"testing"

	"dulcimer/api"
)

func op(who, at, from, to int) api.Op {
	return api.Op{Ref: api.Ref{Who: who, At: at}, From: from, To: to, Told: api.Told{N: from}}
}

// P37.1
func TestCheck(t *testing.T) {
	for i, c := range []struct {
		l []api.Op
		e api.Errno
	}{
		{nil, api.OK}, {[]api.Op{op(0, 0, 0, 1)}, api.OK}, {[]api.Op{op(0, 0, 0, -1)}, api.OK}, {[]api.Op{op(1, 0, 1, 4), op(2, 0, 2, 3)}, api.OK},
		{[]api.Op{op(0, 5, 9, -1), op(0, 0, 0, 1), op(0, 2, 3, 8)}, api.OK}, {[]api.Op{op(0, 0, 1, 2), op(1, 0, 5, -1), op(2, 0, 4, -1)}, api.OK},
		{[]api.Op{op(0, 0, -1, 1)}, api.ErrRange}, {[]api.Op{op(0, 0, 1, -2)}, api.ErrRange}, {[]api.Op{op(0, 0, 1, 1)}, api.ErrRange}, {[]api.Op{op(0, 0, 2, 1)}, api.ErrRange}, {[]api.Op{op(0, 0, math.MinInt, math.MaxInt)}, api.ErrRange}, {[]api.Op{op(0, 0, 0, 0)}, api.ErrRange},
		{[]api.Op{op(0, 0, 0, 1), op(0, 0, 0, 1), op(3, 3, 5, 4)}, api.ErrRange},
		{[]api.Op{op(0, 0, 0, 1), op(0, 0, 0, 1)}, api.ErrArg}, {[]api.Op{op(0, 0, 0, 1), op(1, 0, 1, 2), op(0, 0, 3, 4)}, api.ErrArg},
		{[]api.Op{op(0, 0, 0, 1), op(1, 0, 1, 2)}, api.ErrTwice}, {[]api.Op{op(0, 0, 0, 2), op(1, 0, 0, 3)}, api.ErrTwice}, {[]api.Op{op(0, 0, 0, 3), op(1, 0, 1, 3)}, api.ErrTwice}, {[]api.Op{op(0, 1, 0, 2), op(0, 0, 2, 3)}, api.ErrTwice},
		{[]api.Op{op(0, 0, 0, -1), op(0, 1, 2, 3)}, api.ErrState}, {[]api.Op{op(0, 0, 0, 5), op(0, 1, 2, 6)}, api.ErrState}, {[]api.Op{op(0, 1, 0, 1), op(0, 0, 2, 3)}, api.ErrState}, {[]api.Op{op(0, 0, 0, 1), op(0, 1, 2, -1), op(0, 2, 4, 5)}, api.ErrState}, {[]api.Op{op(0, 0, 7, 8), op(1, 0, 0, 1), op(0, 9, 2, 3), op(0, 4, 5, 6)}, api.ErrState},
	} {
		keep := slices.Clone(c.l)
		if e := Check(c.l); e != c.e || !Same(c.l, keep) {
			t.Error(i, c.l, e)
		}
	}
}

// P37.2, P37.4
func TestAhead(t *testing.T) {
	l := []api.Op{op(0, 0, 1, 4), op(1, 0, 2, 3), op(2, 0, 5, -1), op(3, 0, 6, 7), op(4, 0, 4, 9), op(5, 0, 3, -1), op(6, 0, -5, -3)}
	for _, a := range l {
		for _, b := range l {
			if Ahead(a, b) != (a.To != -1 && a.To < b.From) {
				t.Error(a, b)
			}
			for _, c := range l {
				if a.From < a.To && b.From < b.To && Ahead(a, b) && Ahead(b, c) && !Ahead(a, c) {
					t.Error("goes on", a, b, c)
				}
			}
		}
	}
	if Ahead(l[0], l[1]) || Ahead(l[1], l[0]) {
		t.Error("the chapter's example")
	}
}

// P37.2
func TestSortPending(t *testing.T) {
	l := []api.Op{op(0, 0, 5, -1), op(1, 0, 2, 3), op(2, 0, 5, 9), op(3, 0, 1, -1), op(4, 0, 2, -1), op(5, 0, math.MinInt, -2)}
	var who []int
	for _, o := range Sort(l) {
		who = append(who, o.Ref.Who)
	}
	if !slices.Equal(who, []int{5, 3, 1, 4, 0, 2}) || l[0].From != 5 {
		t.Error("Sort", who)
	}
	if p := Pending(l); !slices.Equal(p, []api.Ref{{Who: 3}, {Who: 4}, {Who: 0}}) {
		t.Error("Pending", p)
	}
	if len(Sort(nil)) != 0 || len(Pending(nil)) != 0 {
		t.Error("none")
	}
}

func full() api.Op {
	return api.Op{Ref: api.Ref{Who: 1, At: 2}, Call: api.Call{Kind: 6, Key: api.Key{N: 8}, Text: "x", Of: api.Ref{Who: 3}, X: []uint64{1}}, Told: api.Told{E: 1, Desc: api.Desc{Kids: make([]api.Desc, 1)}, N: 2, Line: 3, Text: "y", Y: []uint64{2}}, From: 5, To: 6}
}

// P37.2
func TestSame(t *testing.T) {
	if !Same([]api.Op{full(), {}}, []api.Op{full(), {}}) || !Same(nil, []api.Op{}) || Same([]api.Op{full()}, nil) || Same([]api.Op{full(), {}}, []api.Op{{}, full()}) {
		t.Error("Same")
	}
	for i, change := range []func(o *api.Op){
		func(o *api.Op) { o.Ref.At++ }, func(o *api.Op) { o.From++ }, func(o *api.Op) { o.To++ }, func(o *api.Op) { o.Call.Kind++ }, func(o *api.Op) { o.Call.Key.Dir++ }, func(o *api.Op) { o.Call.Text = "" }, func(o *api.Op) { o.Call.Of.At++ }, func(o *api.Op) { o.Call.X[0]++ },
		func(o *api.Op) { o.Told.E++ }, func(o *api.Op) { o.Told.Desc.Kids[0].N++ }, func(o *api.Op) { o.Told.N++ }, func(o *api.Op) { o.Told.Line++ }, func(o *api.Op) { o.Told.Text = "" }, func(o *api.Op) { o.Told.Y[0]++ },
	} {
		o := full()
		change(&o)
		if Same([]api.Op{o}, []api.Op{full()}) {
			t.Error("not the same", i)
		}
	}
}

// P37.3, P37.4
func TestCut(t *testing.T) {
	l := []api.Op{op(0, 2, 8, 9), op(0, 0, 1, 4), op(1, 0, 2, 3), op(2, 0, 5, -1), op(0, 1, 6, 7)}
	for _, c := range []struct {
		at   int
		want []api.Op
	}{
		{math.MinInt, nil}, {1, nil}, {2, []api.Op{{Ref: l[1].Ref, From: 1, To: -1}}}, {3, []api.Op{{Ref: l[1].Ref, From: 1, To: -1}, {Ref: l[2].Ref, From: 2, To: -1}}}, {4, []api.Op{{Ref: l[1].Ref, From: 1, To: -1}, l[2]}},
		{8, []api.Op{l[1], l[2], l[3], l[4]}}, {9, []api.Op{{Ref: l[0].Ref, From: 8, To: -1}, l[1], l[2], l[3], l[4]}}, {10, l}, {math.MaxInt, l},
	} {
		if got := Cut(l, c.at); !Same(got, c.want) || Check(got) != api.OK {
			t.Error(c.at, got)
		}
	}
	one := []api.Op{full()}
	for _, got := range [][]api.Op{Cut(one, 99), Sort(one)} {
		got[0].Call.X[0], got[0].Told.Y[0], got[0].Told.Desc.Kids[0].N = 9, 9, 9
	}
	if !Same(one, []api.Op{full()}) {
		t.Error("shared")
	}
}

// P37.3
func TestMost(t *testing.T) {
	for i, c := range []struct {
		l    []api.Op
		want int
	}{
		{nil, 0}, {[]api.Op{op(0, 0, 1, 4), op(1, 0, 2, 3)}, 2}, {[]api.Op{op(0, 0, 1, 4), op(1, 0, 4, 5)}, 1}, {[]api.Op{op(0, 0, 1, -1), op(1, 0, 4, 5), op(2, 0, 9, -1), op(3, 0, 10, 11)}, 3},
		{[]api.Op{op(0, 0, 3, 3), op(1, 0, 5, 2), op(2, 0, 1, -7)}, 0}, {[]api.Op{op(0, 0, 3, 5), op(1, 0, 3, 5), op(2, 0, 3, 5)}, 3}, {[]api.Op{op(0, 0, math.MinInt, math.MaxInt), op(1, 0, -9, -3)}, 2}, {[]api.Op{op(0, 0, -9, -1), op(1, 0, 3, 4)}, 2}, {[]api.Op{op(0, 0, 1, 9), op(1, 0, 3, 4), op(2, 0, 5, 2)}, 2},
	} {
		if n := Most(c.l); n != c.want {
			t.Error(i, n)
		}
	}
}
