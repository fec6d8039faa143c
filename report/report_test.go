package report

import (
	"math"
	"strings"
	"testing"

	"dulcimer/api"
	"dulcimer/chance"
	"dulcimer/draw"
	"dulcimer/play"
	"dulcimer/stripe"
)

// P43.1
func TestWord(t *testing.T) {
	words := strings.Fields("ok nil arg range size len released none desc version syntax twice big state stuck")
	for i, w := range words {
		if Word(api.Errno(i)) != w {
			t.Error(i, Word(api.Errno(i)))
		}
	}
	if Word(api.ErrStuck) != "stuck" || Word(15) != "?" || Word(-1) != "?" || Word(math.MinInt) != "?" || Word(math.MaxInt) != "?" {
		t.Error("others")
	}
}

// P43.1
func TestCall(t *testing.T) {
	for _, c := range []struct {
		c    api.Call
		want string
	}{
		{api.Call{Kind: 1, Key: api.Key{N: 8, Dir: -1}}, "get 8 -1"}, {api.Call{Kind: 2}, "lookup 0 0"}, {api.Call{Kind: 3, Key: api.Key{N: 8}, Text: "x"}, "evict 8 0"}, {api.Call{Kind: 4, Text: "a\n"}, "import 610a"}, {api.Call{Kind: 4}, "import"}, {api.Call{Kind: 5}, "export"},
		{api.Call{Kind: 6, Of: api.Ref{Who: 1, At: 2}, X: []uint64{3, 4}}, "execute 1 2 3 4"}, {api.Call{Kind: 7, Of: api.Ref{At: 2}}, "release 0 2"}, {api.Call{}, "?"}, {api.Call{Kind: 8}, "?"}, {api.Call{Kind: 4, Text: strings.Repeat("x", 1<<20)}, "?"},
	} {
		if got := Call(c.c); got != c.want {
			t.Error(c.c.Kind, got)
		}
	}
}

// P43.2
func TestTold(t *testing.T) {
	told := api.Told{Desc: api.Desc{Kind: api.Stock, N: 8}, N: -5, Line: 7, Text: "abc", Y: []uint64{api.P - 1, 3}}
	for kind, want := range map[int]string{0: "ok", 1: "ok stock8", 2: "ok stock8", 3: "ok -5", 4: "ok -5", 5: "ok 3", 6: "ok 2 2", 7: "ok", 8: "ok", -1: "ok"} {
		if got := Told(kind, told); got != want {
			t.Error(kind, got)
		}
	}
	told.E = api.ErrSize
	for kind := -1; kind < 9; kind++ {
		want := "size"
		if kind == 4 {
			want = "size 7"
		}
		if got := Told(kind, told); got != want {
			t.Error(kind, got)
		}
	}
	if Told(1, api.Told{}) != "ok ?" || Told(4, api.Told{E: 99}) != "? 0" || Told(6, api.Told{}) != "ok 0 0" {
		t.Error("edges")
	}
}

// P43.3
func TestOp(t *testing.T) {
	o := api.Op{Ref: api.Ref{Who: 1}, Call: api.Call{Kind: 3, Key: api.Key{N: 8}}, Told: api.Told{N: 1}, From: 2, To: 5}
	if got := Op(o); got != "1.0 2-5 evict 8 0: ok 1" {
		t.Error("the chapter's example", got)
	}
	o.To = -1
	if got := Op(o); got != "1.0 2-.. evict 8 0: ..." {
		t.Error(got)
	}
	o = api.Op{Ref: api.Ref{Who: -1, At: 3}, From: -4, To: -5}
	if got := Op(o); got != "-1.3 -4--5 ?: ok" {
		t.Error(got)
	}
}

// P43.4
func TestAll(t *testing.T) {
	evict := api.Call{Kind: 3, Key: api.Key{N: 8}}
	r := play.Report{
		Ops:     []api.Op{{Ref: api.Ref{Who: 1}, Call: evict, From: 4, To: -1}, {Call: evict, From: 2, To: 3}},
		Pending: 1, Stats: stripe.Stats{Measured: 2, Built: 3, Inserted: 4}, Kept: [][]api.Key{{{N: 8}, {N: 4, Dir: 1}}, nil}, Known: make([]api.Entry, 5),
		Tables: []api.Name{{Kind: 1, N: 8, Dir: 1}, {Kind: 4, N: 3, M: 8}}, Uses: []int{6},
	}
	want := "0.0 2-3 evict 8 0: ok 0\n1.0 4-.. evict 8 0: ...\npending 1\nmeasured 2 built 3 inserted 4\nkept 0: 8.0 4.1\nkept 1:\nknown 5\ntable 1 8 0 1 uses 6\ntable 4 3 8 0 uses ?\n"
	if got := All(r); got != want {
		t.Error(got)
	}
	if got := All(play.Report{}); got != "pending 0\nmeasured 0 built 0 inserted 0\nknown 0\n" {
		t.Error(got)
	}
}

// P43.5
func TestLines(t *testing.T) {
	var c chance.Chance = 4
	for range 100 {
		r, _ := play.Run(draw.Script(&c, c.Next(30)))
		if n := strings.Count(All(r), "\n"); n != len(r.Ops)+len(r.Kept)+len(r.Tables)+3 {
			t.Error(n)
		}
	}
}
