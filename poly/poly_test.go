package poly

import (
	"math"
	"slices"
	"testing"

	"dulcimer/api"
	"dulcimer/chance"
	"dulcimer/conv"
	"dulcimer/gold"
	"dulcimer/root"
	"dulcimer/vec"
)

// P44.1
func TestSize(t *testing.T) {
	for n := 1; n < 3000; n++ {
		want := n
		for !root.Has(want) {
			want++
		}
		if got, e := Size(n); got != want || e != api.OK {
			t.Error(n, got, e)
		}
	}
	if n, e := Size(api.MaxN); n != api.MaxN || e != api.OK {
		t.Error(n, e)
	}
	for _, n := range []int{0, -1, api.MaxN + 1, math.MaxInt, math.MinInt} {
		if got, e := Size(n); got != 0 || e != api.ErrRange {
			t.Error(n, got, e)
		}
	}
}

// P44.1
func TestMul(t *testing.T) {
	if l, e := Mul([]uint64{1, 2}, []uint64{3, 4}); e != api.OK || !slices.Equal(l, []uint64{3, 10, 8}) {
		t.Error("the chapter's example", l, e)
	}
	for _, n := range []int{0, 1, 2, 3, 5, 9, 33, 100} {
		for _, m := range []int{0, 1, 2, 4, 7, 60, 129} {
			x, y := chance.Row(n, 1), chance.Row(m, 2)
			keep := slices.Clone(x)
			want, _ := conv.Linear(x, y)
			if l, e := Mul(x, y); e != api.OK || !slices.Equal(l, want) {
				t.Error("Mul", n, m, e)
			}
			if !slices.Equal(x, keep) {
				t.Error("changed")
			}
		}
	}
	full, big := chance.Row(4096, 3), chance.Row(4097, 4)
	if l, e := Mul(full, full); e != api.OK || len(l) != 8191 || l[0] != gold.Mul(full[0], full[0]) || l[8190] != gold.Mul(full[4095], full[4095]) {
		t.Error("greatest", e)
	}
	for _, c := range [][2][]uint64{{big, nil}, {nil, big}, {big, full}} {
		if l, e := Mul(c[0], c[1]); e != api.ErrBig || len(l) != 0 {
			t.Error(e)
		}
	}
}

// P44.1
func TestAround(t *testing.T) {
	for _, n := range []int{1, 2, 3, 4, 6, 16, 17, 60, 96, 257} {
		x, y := chance.Row(n, 5), chance.Row(n, 6)
		want, _ := conv.Cyclic(x, y)
		if l, e := Around(x, y); e != api.OK || !slices.Equal(l, want) {
			t.Error("Around", n, e)
		}
	}
	for _, c := range []struct {
		n, m int
		e    api.Errno
	}{{2, 3, api.ErrLen}, {7, 8, api.ErrLen}, {7, 7, api.ErrSize}, {0, 0, api.ErrSize}, {4097, 4097, api.ErrSize}, {8192, 8192, api.ErrBig}, {4112, 4112, api.ErrBig}, {8192, 4, api.ErrLen}} {
		if l, e := Around(make([]uint64, c.n), make([]uint64, c.m)); e != c.e || len(l) != 0 {
			t.Error(c, e)
		}
	}
}

// P44.2, P44.4
func TestPow(t *testing.T) {
	for _, n := range []int{0, 1, 2, 3, 5} {
		x := chance.Row(n, 7)
		want := []uint64{1}
		for k := range 10 {
			l, e := Pow(x, k)
			if e != api.OK || !slices.Equal(l, want) {
				t.Error("Pow", n, k, l, e)
			}
			want, _ = conv.Linear(want, x)
			for j := range 5 {
				m, _ := Pow(x, j)
				both, _ := Mul(l, m)
				if sum, _ := Pow(x, j+k); !slices.Equal(sum, both) {
					t.Error("sums", n, j, k)
				}
			}
		}
	}
	for _, k := range []int{-1, 65, math.MaxInt, math.MinInt} {
		if l, e := Pow(chance.Row(9999, 1), k); e != api.ErrArg || len(l) != 0 {
			t.Error(k, e)
		}
	}
	for _, c := range []struct {
		n, k int
		e    api.Errno
	}{{64, 64, api.OK}, {65, 64, api.ErrBig}, {64, 63, api.OK}, {4096, 1, api.OK}, {4097, 1, api.ErrBig}, {2048, 2, api.OK}, {2049, 2, api.ErrBig}, {9999, 0, api.OK}, {0, 64, api.OK}, {1, 64, api.OK}, {1366, 3, api.OK}, {1367, 3, api.ErrBig}} {
		l, e := Pow(chance.Row(c.n, 8), c.k)
		want := max((c.n-1)*c.k+1, 0)
		if e != c.e || e != api.OK && len(l) != 0 || e == api.OK && len(l) != want {
			t.Error(c, len(l), e)
		}
	}
	x := []uint64{5}
	if l, _ := Pow(x, 1); len(l) != 1 || &l[0] == &x[0] {
		t.Error("shared")
	}
}

// P44.2, P44.3, P44.4
func TestEval(t *testing.T) {
	if Eval([]uint64{3, 10, 8}, 1) != 21 || Eval(nil, 5) != 0 || Eval([]uint64{api.P + 4, 9}, api.P) != 4 {
		t.Error("the chapter's example")
	}
	for n := range 9 {
		x, y := chance.Row(n, 9), chance.Row(n/2+1, 10)
		product, _ := Mul(x, y)
		for _, a := range []uint64{0, 1, 7, api.P - 1, 1<<64 - 1} {
			want := uint64(0)
			for i := range x {
				want = gold.Add(want, gold.Mul(x[i], gold.Pow(a, uint64(i))))
			}
			if Eval(x, a) != want || Eval(product, a) != gold.Mul(Eval(x, a), Eval(y, a)) {
				t.Error("Eval", n, a)
			}
		}
		for _, m := range []int{1, 2, 3, 4, 6, 17, 96} {
			w, _ := root.Root(m)
			l, e := Eval2(x, m)
			if e != api.OK || len(l) != m {
				t.Fatal(n, m, e)
			}
			for i := range l {
				if l[i] != Eval(x, gold.Pow(w, uint64(i))) {
					t.Error("Eval2", n, m, i)
				}
			}
		}
	}
	if l, e := Eval2(chance.Row(5000, 1), 4096); e != api.OK || len(l) != 4096 || !vec.Same(l, vec.Red(l)) {
		t.Error(e)
	}
	for n, want := range map[int]api.Errno{0: api.ErrSize, -4: api.ErrSize, 7: api.ErrSize, 8191: api.ErrSize, 8192: api.ErrBig, api.MaxN: api.ErrBig, 4112: api.ErrBig, math.MinInt: api.ErrSize} {
		if l, e := Eval2(nil, n); e != want || len(l) != 0 {
			t.Error(n, e)
		}
	}
}
