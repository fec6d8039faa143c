package cost

import (
	"testing"

	"dulcimer/api"
	"dulcimer/desc"
)

func of(kind, n int, kids ...api.Desc) api.Desc { return api.Desc{Kind: kind, N: n, Kids: kids} }

// P18.1
func TestEst(t *testing.T) {
	two, three, eight := of(api.Small, 2), of(api.Naive, 3), of(api.Stock, 8)
	for _, c := range []struct {
		d    api.Desc
		want int
	}{
		{of(api.Naive, 8), 64}, {eight, 24}, {of(api.Naive, 1), 1}, {of(api.Small, 5), 10}, {of(api.Stock, 2), 2}, {of(api.Stock, api.MaxN), api.MaxN * 24},
		{of(api.Split, 6, two, three), 3*4 + 2*9 + 6}, {of(api.Split, 6, three, two), 2*9 + 3*4 + 6}, {of(api.Good, 6, two, three), 3*4 + 2*9},
		{of(api.Split, 16, two, eight), 8*4 + 2*24 + 16}, {of(api.Rader, 17, of(api.Stock, 16)), 2*64 + 34}, {of(api.Blue, 3, eight), 48 + 8 + 9},
	} {
		if n, e := Est(c.d); n != c.want || e != api.OK {
			t.Error("Est", c.d, n, e)
		}
	}
	for _, c := range []struct {
		d api.Desc
		e api.Errno
	}{{api.Desc{}, api.ErrDesc}, {of(api.Stock, 3), api.ErrDesc}, {api.Desc{Kids: make([]api.Desc, 60)}, api.ErrBig}} {
		if n, e := Est(c.d); n != 0 || e != c.e {
			t.Error(c, n, e)
		}
	}
}

// P18.1: sums and products are held, step by step.
func TestHeld(t *testing.T) {
	for _, c := range [][3]int{{1 << 30, 1 << 30, 1 << 60}, {1 << 31, 1 << 30, 1 << 60}, {1 << 60, 1 << 60, 1 << 60}, {3, 1<<60 - 1, 1 << 60}, {1 << 60, 0, 0}, {1, 1<<60 - 1, 1<<60 - 1}} {
		if n := times(c[0], c[1]); n != c[2] {
			t.Error("times", c, n)
		}
	}
	if plus(1<<60, 1<<60) != 1<<60 || plus(1<<60-1, 1) != 1<<60 || plus(1<<60-2, 1) != 1<<60-1 {
		t.Error("plus")
	}
}

// P18.2
func TestCmp(t *testing.T) {
	// Each is ahead of those behind it; the last two are no plans.
	l := []api.Desc{of(api.Stock, 2), of(api.Naive, 2), of(api.Small, 2), of(api.Naive, 4), of(api.Stock, 8), of(api.Naive, 8), of(api.Stock, 16), {}, of(api.Small, 9)}
	l[0], l[1], l[2] = of(api.Stock, 2), of(api.Naive, 2), of(api.Small, 2)
	for i, a := range l {
		for j, b := range l {
			want := 0
			x, e := Est(a)
			y, f := Est(b)
			switch {
			case e != api.OK && f == api.OK:
				want = 1
			case e == api.OK && f != api.OK:
				want = -1
			case x < y:
				want = -1
			case x > y:
				want = 1
			default:
				want = desc.Cmp(a, b)
			}
			if Cmp(a, b) != want || Cmp(a, b) != -Cmp(b, a) {
				t.Error("Cmp", i, j, Cmp(a, b))
			}
		}
	}
	if Cmp(of(api.Naive, 2), of(api.Small, 2)) != -1 || Cmp(of(api.Naive, 8), of(api.Stock, 16)) != -1 || Cmp(of(api.Stock, 2), of(api.Naive, 2)) != -1 {
		t.Error("Cmp")
	}
}

// P18.2
func TestLeast(t *testing.T) {
	bad, big := api.Desc{}, of(api.Small, 9)
	for _, c := range []struct {
		l    []api.Desc
		want int
		ok   bool
	}{
		{nil, 0, false}, {[]api.Desc{bad, big}, 0, false}, {[]api.Desc{bad, of(api.Naive, 8), big}, 1, true},
		{[]api.Desc{of(api.Naive, 8), of(api.Stock, 8), of(api.Stock, 8), bad}, 1, true},
		{[]api.Desc{of(api.Small, 2), of(api.Naive, 2)}, 1, true}, {[]api.Desc{of(api.Naive, 2), of(api.Small, 2)}, 0, true},
	} {
		if i, ok := Least(c.l); i != c.want || ok != c.ok {
			t.Error("Least", c, i, ok)
		}
	}
}

// P18.3
func TestKid(t *testing.T) {
	for _, kid := range []api.Desc{of(api.Stock, 16), of(api.Naive, 16), of(api.Split, 16, of(api.Small, 4), of(api.Small, 4)), of(api.Blue, 16, of(api.Stock, 32))} {
		k, _ := Est(kid)
		for _, d := range []api.Desc{of(api.Rader, 17, kid), of(api.Blue, 8, kid)} {
			if n, e := Est(d); e != api.OK || k <= 0 || n < 2*k {
				t.Error(d, n, e)
			}
		}
	}
}
