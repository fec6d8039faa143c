package conv

import (
	"math"
	"slices"
	"testing"

	"dulcimer/api"
	"dulcimer/chance"
	"dulcimer/dft"
	"dulcimer/gold"
	"dulcimer/vec"
)

const p = api.P

// P7.1
func TestProducts(t *testing.T) {
	if l, e := Cyclic([]uint64{1, 2}, []uint64{3, 4}); e != api.OK || !slices.Equal(l, []uint64{11, 10}) {
		t.Error("Cyclic: the chapter's example", l, e)
	}
	if l, e := Linear([]uint64{1, 2}, []uint64{3, 4}); e != api.OK || !slices.Equal(l, []uint64{3, 10, 8}) {
		t.Error("Linear: the chapter's example", l, e)
	}
	for n := range 7 {
		for m := range 7 {
			x, y := chance.Row(n, 1), chance.Row(m, 2)
			keep := slices.Clone(x)
			want := make([]uint64, max(n+m-1, 0))
			if n == 0 || m == 0 {
				want = nil
			}
			around := make([]uint64, n)
			for i := range x {
				for j := range y {
					a := gold.Mul(x[i], y[j])
					want[i+j] = gold.Add(want[i+j], a)
					around[(i+j)%n] = gold.Add(around[(i+j)%n], a)
				}
			}
			if l, e := Linear(x, y); e != api.OK || !slices.Equal(l, want) {
				t.Error("Linear", n, m, l, e)
			}
			l, e := Cyclic(x, y)
			if n != m && (e != api.ErrLen || len(l) != 0) || n == m && (e != api.OK || !slices.Equal(l, around)) {
				t.Error("Cyclic", n, m, l, e)
			}
			if !slices.Equal(x, keep) {
				t.Error("changed")
			}
		}
	}
}

// P7.1
func TestProductsEdges(t *testing.T) {
	big, full := make([]uint64, 4097), chance.Row(4096, 3)
	if l, e := Cyclic(big, big); len(l) != 0 || e != api.ErrBig {
		t.Error(e)
	}
	if l, e := Cyclic(big, full); len(l) != 0 || e != api.ErrLen {
		t.Error(e)
	}
	if l, e := Linear(big, nil); len(l) != 0 || e != api.ErrBig {
		t.Error(e)
	}
	if l, e := Linear(full, big); len(l) != 0 || e != api.ErrBig {
		t.Error(e)
	}
	one := make([]uint64, 4096)
	one[4095] = 1
	if l, e := Cyclic(full, one); e != api.OK || !slices.Equal(l, vec.Turn(full, 1)) {
		t.Error(e)
	}
	if l, e := Linear(full, one); e != api.OK || len(l) != 8191 || l[8190] != gold.Red(full[4095]) {
		t.Error(e)
	}
}

// P7.2
func TestPadWrap(t *testing.T) {
	x := []uint64{p + 1, 2, 3, 4, 5}
	if l, e := Pad(x, 7); e != api.OK || !slices.Equal(l, []uint64{1, 2, 3, 4, 5, 0, 0}) {
		t.Error(l, e)
	}
	if l, e := Pad(x, 5); e != api.OK || !slices.Equal(l, []uint64{1, 2, 3, 4, 5}) {
		t.Error(l, e)
	}
	if l, e := Pad(nil, 0); e != api.OK || len(l) != 0 {
		t.Error(l, e)
	}
	if l, e := Wrap(x, 2); e != api.OK || !slices.Equal(l, []uint64{9, 6}) {
		t.Error(l, e)
	}
	if l, e := Wrap(x, 6); e != api.OK || !slices.Equal(l, []uint64{1, 2, 3, 4, 5, 0}) {
		t.Error(l, e)
	}
	if l, e := Wrap(nil, 2); e != api.OK || !slices.Equal(l, []uint64{0, 0}) {
		t.Error(l, e)
	}
	if l, e := Pad(x, 4); e != api.ErrLen || len(l) != 0 {
		t.Error(l, e)
	}
	for _, m := range []int{-1, api.MaxN + 1, math.MinInt, math.MaxInt} {
		if l, e := Pad(x, m); e != api.ErrArg || len(l) != 0 {
			t.Error(m, e)
		}
		if l, e := Wrap(x, m); e != api.ErrArg || len(l) != 0 {
			t.Error(m, e)
		}
	}
	if l, e := Wrap(x, 0); e != api.ErrArg || len(l) != 0 {
		t.Error(e)
	}
	if l, e := Pad(x, api.MaxN); e != api.OK || len(l) != api.MaxN {
		t.Error(e)
	}
	if l, e := Wrap(x, api.MaxN); e != api.OK || len(l) != api.MaxN || l[4] != 5 {
		t.Error(e)
	}
	if x[0] != p+1 {
		t.Error("changed")
	}
}

// P7.3
func TestLaws(t *testing.T) {
	for _, n := range []int{1, 2, 3, 4, 5, 6, 8, 12, 17} {
		x, y := chance.Row(n, 4), chance.Row(n, 5)
		c, _ := Cyclic(x, y)
		l, _ := Linear(x, y)
		if w, _ := Wrap(l, n); !slices.Equal(w, c) {
			t.Error("Wrap of Linear", n)
		}
		for dir := range 2 {
			fx, _ := dft.Dft(x, dir)
			fy, _ := dft.Dft(y, dir)
			fc, _ := dft.Dft(c, dir)
			if m, _ := vec.Mul(fx, fy); !slices.Equal(m, fc) {
				t.Error("transform of Cyclic", n, dir)
			}
		}
	}
}
