package bound

import (
	"math"
	"slices"
	"testing"

	"dulcimer/api"
	"dulcimer/chance"
	"dulcimer/draw"
	"dulcimer/play"
)

// P41.1
func TestTurns(t *testing.T) {
	if n, e := Turns(2); n != 1208 || e != api.OK {
		t.Error("the chapter's example", n, e)
	}
	if n, e := Rounds(3, 2, 4); n != 3628 || e != api.OK {
		t.Error("the chapter's example", n, e)
	}
	if n, e := Rounds(0, 16, 0); n != 0 || e != api.OK {
		t.Error(n, e)
	}
	if n, e := Rounds(8, 16, 8); n != 8*1264+8 || e != api.OK {
		t.Error(n, e)
	}
	for _, stripes := range []int{0, 17, -1, math.MaxInt, math.MinInt} {
		n, e := Turns(stripes)
		m, f := Rounds(1, stripes, 1)
		if n != 0 || m != 0 || e != api.ErrArg || f != api.ErrArg {
			t.Error(stripes, n, m, e, f)
		}
	}
	for _, c := range [][2]int{{-1, 0}, {9, 0}, {0, -1}, {0, 9}, {math.MinInt, math.MaxInt}} {
		if n, e := Rounds(c[0], 1, c[1]); n != 0 || e != api.ErrArg {
			t.Error(c, n, e)
		}
	}
}

// P41.2
func TestCount(t *testing.T) {
	for _, c := range []struct {
		order          []int
		clients        int
		spent, longest []int
	}{
		{nil, 0, nil, nil}, {[]int{0, 1}, 0, nil, nil}, {[]int{0}, -3, nil, nil}, {[]int{0}, math.MinInt, nil, nil}, {nil, 2, []int{0, 0}, []int{0, 0}},
		{[]int{0, 1, 1, 0, 2, 0, 7, -1}, 3, []int{3, 2, 1}, []int{2, 5, 4}}, {[]int{5, 5, 5, 0}, 1, []int{1}, []int{3}}, {[]int{0, 5, 5}, 2, []int{1, 0}, []int{2, 3}}, {[]int{1, 0, 0}, 2, []int{2, 1}, []int{1, 2}},
	} {
		keep := slices.Clone(c.order)
		if s, l := Spent(c.order, c.clients), Longest(c.order, c.clients); !slices.Equal(s, c.spent) || !slices.Equal(l, c.longest) || !slices.Equal(c.order, keep) {
			t.Error(c, s, l)
		}
	}
}

// P41.3
func TestAll(t *testing.T) {
	var c chance.Chance = 17
	for i := range 400 {
		s := draw.Script(&c, 10+c.Next(60))
		if i%2 == 0 {
			// One text may have plans of many tables, which are built twice.
			for _, calls := range s.Clients {
				for j := range calls {
					calls[j].Text = heavy
				}
			}
		}
		a, e1 := play.Run(s)
		rounds, e2 := Rounds(a.Pending, s.Stripes, len(s.Clients))
		b, e3 := play.Drain(s, rounds)
		if e1 != api.OK || e2 != api.OK || e3 != api.OK || b.Pending != 0 {
			t.Fatal(i, s, e1, e2, e3, b.Pending)
		}
		most, _ := Turns(s.Stripes)
		for who, n := range Spent(b.Order[len(a.Order):], len(s.Clients)) {
			if n > most+1 {
				t.Error(who, n)
			}
		}
	}
}

const heavy = "dulcimer 1\n" +
	"2 0 blue2(split4(naive2,naive2))\n" +
	"3 0 blue3(split8(split4(naive2,small2),blue2(split8(naive4,naive2))))\n" +
	"8 0 blue8(blue16(blue32(blue64(blue128(blue256(blue512(blue1024(blue2048(stock4096)))))))))\n"
