package small

import (
	"math"
	"slices"
	"testing"

	"dulcimer/api"
	"dulcimer/chance"
	"dulcimer/dft"
	"dulcimer/gold"
)

const p = api.P

// P10.1, P10.3
func TestDo(t *testing.T) {
	if l, e := Do([]uint64{1, 2}, 0); e != api.OK || !slices.Equal(l, []uint64{3, p - 1}) {
		t.Error("the chapter's example", l, e)
	}
	for n := -1; n < 9; n++ {
		if Has(n) != (n >= 1 && n <= 5) {
			t.Error("Has", n)
		}
	}
	for n := 1; n <= 5; n++ {
		for k := range 20 {
			for dir := range 2 {
				x := chance.Row(n, uint64(k))
				if k == 0 {
					x[0] = 1<<64 - 1
				}
				keep := slices.Clone(x)
				want, _ := dft.Dft(x, dir)
				if l, e := Do(x, dir); e != api.OK || !slices.Equal(l, want) {
					t.Error("Do", n, dir, l, want)
				}
				if !slices.Equal(x, keep) {
					t.Error("changed")
				}
			}
		}
	}
	for _, dir := range []int{-1, 2, math.MinInt} {
		if l, e := Do(nil, dir); e != api.ErrArg || len(l) != 0 {
			t.Error(dir, e)
		}
	}
	for _, n := range []int{0, 6, 8} {
		if l, e := Do(make([]uint64, n), 1); e != api.ErrLen || len(l) != 0 {
			t.Error(n, e)
		}
	}
}

// P10.1, P10.3
func TestTwist(t *testing.T) {
	if !slices.Equal(Twist([]uint64{1, 1, 1}, 2), []uint64{1, 2, 4}) || len(Twist(nil, 2)) != 0 {
		t.Error("the chapter's example")
	}
	x := chance.Row(9, 3)
	l := Twist(x, p+5)
	for j := range x {
		if l[j] != gold.Mul(x[j], gold.Pow(5, uint64(j))) {
			t.Error("Twist", j)
		}
	}
	if !slices.Equal(Twist(l, 7), Twist(x, 35)) || !slices.Equal(Twist(x, 0), append([]uint64{gold.Red(x[0])}, make([]uint64, 8)...)) {
		t.Error("Twist twice, by 0")
	}
}

// P10.2
func TestRows(t *testing.T) {
	for b := 1; b <= 5; b++ {
		for many := 1; many < 4; many++ {
			for dir := range 2 {
				x := chance.Row(b*many, 4)
				keep := slices.Clone(x)
				var want []uint64
				for i := range many {
					l, _ := dft.Dft(x[i*b:i*b+b], dir)
					want = append(want, l...)
				}
				if l, e := Rows(x, b, dir); e != api.OK || !slices.Equal(l, want) {
					t.Error("Rows", b, many, dir, e)
				}
				if !slices.Equal(x, keep) {
					t.Error("changed")
				}
			}
		}
	}
	for _, c := range []struct {
		n, b, dir int
		e         api.Errno
	}{{4, 2, 2, api.ErrArg}, {4, 2, -1, api.ErrArg}, {4, 0, 0, api.ErrArg}, {6, 6, 0, api.ErrArg}, {6, -1, 0, api.ErrArg}, {0, 0, 0, api.ErrArg}, {0, 2, 0, api.ErrLen}, {5, 2, 0, api.ErrLen}, {4, 5, 1, api.ErrLen}} {
		if l, e := Rows(make([]uint64, c.n), c.b, c.dir); e != c.e || len(l) != 0 {
			t.Error(c, e)
		}
	}
}
