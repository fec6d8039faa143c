package load

import (
	"maps"
	"math"
	"slices"
	"testing"

	"dulcimer/api"
	"dulcimer/chance"
)

func op(who, kind, from, to int, e api.Errno) api.Op {
	return api.Op{Ref: api.Ref{Who: who}, Call: api.Call{Kind: kind}, From: from, To: to, Told: api.Told{E: e}}
}

func some() []api.Op {
	return []api.Op{
		op(0, 1, 0, 3, api.OK), op(1, 2, 1, 9, api.ErrNone), op(0, 2, 4, 5, api.OK), op(2, 2, 10, -1, api.ErrNone), op(0, 2, 11, 12, api.ErrSize), op(5, 9, 13, 20, api.ErrBig), op(5, -1, 14, 15, api.OK), op(1, 0, 16, -1, api.ErrBig), op(3, 7, 17, 18, api.ErrNone),
	}
}

// P45.1
func TestLoads(t *testing.T) {
	l := some()
	if k := Kinds(l); k != [8]Load{{3, 1, 2, 7}, {1, 0, 1, 3}, {4, 2, 3, 8}, {}, {}, {}, {}, {1, 1, 1, 1}} {
		t.Error("Kinds", k)
	}
	if c := Clients(l); !maps.Equal(c, map[int]Load{0: {3, 1, 3, 3}, 1: {2, 1, 1, 8}, 2: {1, 0, 0, 0}, 5: {2, 1, 2, 7}, 3: {1, 1, 1, 1}}) {
		t.Error("Clients", c)
	}
	if e := Errors(l); !maps.Equal(e, map[api.Errno]int{api.ErrNone: 2, api.ErrSize: 1, api.ErrBig: 1}) {
		t.Error("Errors", e)
	}
	if Kinds(nil) != [8]Load{} || len(Clients(nil)) != 0 || len(Errors(nil)) != 0 {
		t.Error("none")
	}
}

// P45.1
func TestLongest(t *testing.T) {
	for _, c := range [][3]int{{3, 10, 7}, {5, 5, 0}, {5, 2, 0}, {5, -1, 0}, {-9, -3, 6}, {0, 1 << 60, 1 << 60}, {-1, 1 << 60, 1 << 60}, {1, 1 << 60, 1<<60 - 1}, {math.MinInt, math.MaxInt, 1 << 60}, {math.MaxInt, math.MinInt, 0}, {math.MinInt, 0, 1 << 60}, {-1 << 62, 1 << 62, 1 << 60}} {
		if k := Kinds([]api.Op{op(0, 1, c[0], c[1], 0)}); k[1].Longest != c[2] {
			t.Error(c, k[1])
		}
	}
}

// P45.1
func TestSum(t *testing.T) {
	if Sum() != (Load{}) || Sum(Load{1, 2, 3, 4}, Load{10, 20, 30, 2}) != (Load{11, 22, 33, 4}) || Sum(Load{0, 0, 0, -5}, Load{-1, 0, 0, -2}) != (Load{-1, 0, 0, 0}) {
		t.Error("Sum")
	}
	if Sum(Load{math.MaxInt, math.MinInt, 0, math.MaxInt}, Load{1, -1, 0, 5}) != (Load{math.MinInt, math.MaxInt, 0, math.MaxInt}) {
		t.Error("coming round")
	}
}

// P45.2
func TestSpan(t *testing.T) {
	for i, c := range []struct {
		l        []api.Op
		from, to int
		ok       bool
	}{
		{nil, 0, 0, false}, {[]api.Op{op(0, 1, 1, 4, 0), op(1, 1, 2, -1, 0)}, 1, 4, true}, {[]api.Op{op(0, 1, 7, -1, 0)}, 7, 7, true}, {some(), 0, 20, true}, {[]api.Op{op(0, 1, -9, -5, 0), op(0, 1, -7, -1, 0)}, -9, -5, true}, {[]api.Op{op(0, 1, 8, 3, 0)}, 8, 8, true}, {[]api.Op{op(0, 1, math.MinInt, math.MaxInt, 0)}, math.MinInt, math.MaxInt, true},
	} {
		if from, to, ok := Span(c.l); from != c.from || to != c.to || ok != c.ok {
			t.Error(i, from, to, ok)
		}
	}
}

// P45.2
func TestHits(t *testing.T) {
	if h, m := Hits(some()); h != 1 || m != 1 {
		t.Error(h, m)
	}
	if h, m := Hits([]api.Op{op(0, 2, 0, 1, 0), op(0, 2, 2, -1, 0), op(0, 1, 4, 5, 0), op(0, 2, 6, 7, 0), op(0, 2, 6, 7, 7), op(0, 2, 6, 7, 7), op(0, 2, 6, 7, 4)}); h != 2 || m != 2 {
		t.Error(h, m)
	}
}

// quiet tells Quiet by the chapter's words.
func quiet(l []api.Op) []int {
	var at []int
	for _, o := range l {
		if o.To == -1 {
			continue
		}
		under := slices.ContainsFunc(l, func(x api.Op) bool { return x.From <= o.To && (x.To == -1 || x.To > o.To) })
		if !under {
			at = append(at, o.To)
		}
	}
	slices.Sort(at)
	return slices.Compact(at)
}

// P45.2
func TestQuiet(t *testing.T) {
	if q := Quiet([]api.Op{op(0, 1, 1, 4, 0), op(1, 1, 2, -1, 0)}); len(q) != 0 {
		t.Error("the chapter's example", q)
	}
	for i, c := range []struct {
		l    []api.Op
		want []int
	}{
		{nil, nil}, {some(), []int{9}}, {[]api.Op{op(0, 1, 1, 4, 0), op(1, 1, 2, 3, 0), op(2, 1, 5, 6, 0)}, []int{4, 6}}, {[]api.Op{op(0, 1, 1, 4, 0), op(1, 1, 4, 6, 0)}, []int{6}}, {[]api.Op{op(0, 1, 1, 4, 0), op(1, 1, 2, 4, 0)}, []int{4}}, {[]api.Op{op(0, 1, 5, 2, 0), op(1, 1, 3, 3, 0)}, []int{2, 3}}, {[]api.Op{op(0, 1, 1, 4, 0), op(1, 1, 4, -1, 0)}, nil}, {[]api.Op{op(0, 1, 1, 4, 0), op(1, 1, 9, 3, 0)}, []int{4}},
	} {
		if q := Quiet(c.l); !slices.Equal(q, c.want) {
			t.Error(i, q)
		}
	}
	var ch chance.Chance
	for range 3000 {
		var l []api.Op
		for range 6 {
			l = append(l, op(0, 1, ch.Next(14)-2, ch.Next(14)-2, 0))
		}
		if got, want := Quiet(l), quiet(l); !slices.Equal(got, want) {
			t.Fatal(l, got, want)
		}
	}
}

// P45.3
func TestAll(t *testing.T) {
	l := some()
	all := Load{}
	for _, o := range l {
		all = Sum(all, Kinds([]api.Op{o})[0], Kinds([]api.Op{o})[1], Kinds([]api.Op{o})[2], Kinds([]api.Op{o})[7])
	}
	k := Kinds(l)
	if Sum(k[:]...) != all || Sum(slices.Collect(maps.Values(Clients(l)))...) != all || all.Calls != len(l) {
		t.Error("all", all)
	}
}
