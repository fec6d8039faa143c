package stock

import (
	"math"
	"slices"
	"testing"

	"dulcimer/api"
	"dulcimer/chance"
	"dulcimer/dft"
	"dulcimer/gold"
	"dulcimer/root"
)

const p = api.P

// P11.1
func TestHas(t *testing.T) {
	want := map[int]bool{}
	for i := 0; i <= 24; i++ {
		want[1<<i] = true
	}
	for n := -5; n < 70000; n++ {
		if Has(n) != want[n] {
			t.Error(n)
		}
	}
	for _, n := range []int{math.MinInt, math.MaxInt, 1 << 25, 1 << 62} {
		if Has(n) {
			t.Error(n)
		}
	}
	if !Has(api.MaxN) || Has(api.MaxN-1) {
		t.Error("MaxN")
	}
}

// P11.2
func TestPass(t *testing.T) {
	if l, e := Pass([]uint64{1, 2, 3, 4}, 1, []uint64{1, 0, 0, 0}); e != api.OK || !slices.Equal(l, []uint64{4, p - 2, 6, 0}) {
		t.Error("the chapter's example", l, e)
	}
	for n := 2; n <= 32; n *= 2 {
		for s := 1; s <= n/2; s *= 2 {
			x, w := chance.Row(n, 1), chance.Row(n, 2)
			keepX, keepW := slices.Clone(x), slices.Clone(w)
			l, e := Pass(x, s, w)
			if e != api.OK || len(l) != n {
				t.Fatal(n, s, e)
			}
			h := n / (2 * s)
			for i := range h {
				for q := range s {
					a, b := x[q+s*i], x[q+s*(i+h)]
					if l[q+s*2*i] != gold.Add(a, b) || l[q+s*(2*i+1)] != gold.Mul(gold.Sub(a, b), w[i*s]) {
						t.Error("Pass", n, s, i, q)
					}
				}
			}
			if !slices.Equal(x, keepX) || !slices.Equal(w, keepW) {
				t.Error("changed")
			}
		}
	}
	for _, c := range []struct {
		n, s, w int
		e       api.Errno
	}{{0, 1, 0, api.ErrSize}, {3, 0, 1, api.ErrSize}, {1, 1, 1, api.ErrArg}, {1, 0, 3, api.ErrArg}, {4, 0, 4, api.ErrArg}, {4, 4, 4, api.ErrArg}, {8, 3, 8, api.ErrArg}, {8, -1, 0, api.ErrArg}, {8, math.MinInt, 8, api.ErrArg}, {4, 2, 3, api.ErrLen}, {4, 1, 5, api.ErrLen}} {
		if l, e := Pass(make([]uint64, c.n), c.s, make([]uint64, c.w)); e != c.e || len(l) != 0 {
			t.Error(c, e)
		}
	}
}

// P11.3, P11.4
func TestDo(t *testing.T) {
	for n := 1; n <= 256; n *= 2 {
		for dir := range 2 {
			x := chance.Row(n, 3)
			keep := slices.Clone(x)
			want, _ := dft.Dft(x, dir)
			if l, e := Do(x, dir); e != api.OK || !slices.Equal(l, want) {
				t.Error("Do", n, dir, e)
			}
			w, _ := root.Root(n)
			if dir == 1 {
				w, _ = root.Back(n)
			}
			powers, _ := root.Powers(w, n)
			if l, e := With(x, powers); e != api.OK || !slices.Equal(l, want) {
				t.Error("With", n, dir, e)
			}
			steps := x
			for s := 1; s < n; s *= 2 {
				steps, _ = Pass(steps, s, powers)
			}
			if n > 1 && !slices.Equal(steps, want) || !slices.Equal(x, keep) {
				t.Error("steps", n, dir)
			}
		}
	}
	if l, e := With([]uint64{p + 3}, []uint64{9}); e != api.OK || !slices.Equal(l, []uint64{3}) {
		t.Error("With of one", l, e)
	}
	if l, e := With(make([]uint64, 3), make([]uint64, 2)); e != api.ErrSize || len(l) != 0 {
		t.Error(e)
	}
	if l, e := With(make([]uint64, 4), make([]uint64, 2)); e != api.ErrLen || len(l) != 0 {
		t.Error(e)
	}
	if l, e := Do(make([]uint64, 3), 2); e != api.ErrArg || len(l) != 0 {
		t.Error(e)
	}
	if l, e := Do(make([]uint64, 6), 1); e != api.ErrSize || len(l) != 0 {
		t.Error(e)
	}
	if l, e := Do(nil, 1); e != api.ErrSize || len(l) != 0 {
		t.Error(e)
	}
}
