package vec

import (
	"math"
	"slices"
	"testing"

	"dulcimer/api"
	"dulcimer/chance"
	"dulcimer/gold"
)

const p = api.P

// P5.1
func TestOneByOne(t *testing.T) {
	for n := 0; n < 9; n++ {
		x, y := chance.Row(n, 1), chance.Row(n, 2)
		keepX, keepY := slices.Clone(x), slices.Clone(y)
		sum, e1 := Add(x, y)
		product, e2 := Mul(x, y)
		dot, e3 := Dot(x, y)
		scaled, red := Scale(x, p+3), Red(x)
		if e1 != api.OK || e2 != api.OK || e3 != api.OK || len(sum) != n || len(product) != n || len(scaled) != n || len(red) != n {
			t.Fatal(n, e1, e2, e3)
		}
		want := uint64(0)
		for i := range n {
			if sum[i] != gold.Add(x[i], y[i]) || product[i] != gold.Mul(x[i], y[i]) || scaled[i] != gold.Mul(3, x[i]) || red[i] != x[i]%p {
				t.Error(n, i)
			}
			want = gold.Add(want, product[i])
		}
		if dot != want || !slices.Equal(x, keepX) || !slices.Equal(y, keepY) {
			t.Error("Dot", n)
		}
		if !Same(x, Red(x)) || Same(x, append(Red(x), 0)) || n > 0 && Same(x, Scale(x, 2)) {
			t.Error("Same", n)
		}
	}
	a, b := []uint64{1, 2}, []uint64{1}
	l, e1 := Add(a, b)
	m, e2 := Mul(b, a)
	d, e3 := Dot(a, nil)
	if len(l) != 0 || len(m) != 0 || d != 0 || e1 != api.ErrLen || e2 != api.ErrLen || e3 != api.ErrLen {
		t.Error("ErrLen", e1, e2, e3)
	}
	if !Same(nil, []uint64{}) || !Same([]uint64{0, p}, []uint64{p, 0}) {
		t.Error("Same: edges")
	}
}

// P5.2
func TestPlaces(t *testing.T) {
	if !slices.Equal(Rev([]uint64{1, 2, 3}), []uint64{1, 3, 2}) || !slices.Equal(Turn([]uint64{1, 2, 3}, 1), []uint64{2, 3, 1}) {
		t.Error("the chapter's examples")
	}
	if !slices.Equal(Rev([]uint64{p + 4}), []uint64{4}) || len(Rev(nil)) != 0 || len(Turn(nil, 3)) != 0 {
		t.Error("Rev, Turn: edges")
	}
	if !slices.Equal(Turn([]uint64{p + 1, 2, 3}, -1), []uint64{3, 1, 2}) || !slices.Equal(Turn([]uint64{1, 2, 3}, math.MinInt), []uint64{2, 3, 1}) || !slices.Equal(Turn([]uint64{1, 2, 3}, math.MaxInt), []uint64{2, 3, 1}) {
		t.Error("Turn: far", Turn([]uint64{1, 2, 3}, math.MinInt), Turn([]uint64{1, 2, 3}, math.MaxInt))
	}
	for n := 1; n < 6; n++ {
		for k := range n {
			l, e := Unit(n, k)
			if e != api.OK || len(l) != n || l[k] != 1 || gold.Sum(l...) != 1 {
				t.Error("Unit", n, k)
			}
		}
	}
	for _, a := range [][2]int{{0, 0}, {-1, 0}, {3, 3}, {3, -1}, {api.MaxN + 1, 0}, {math.MaxInt, 5}} {
		if l, e := Unit(a[0], a[1]); len(l) != 0 || e != api.ErrRange {
			t.Error("Unit", a, e)
		}
	}
	if l, e := Unit(api.MaxN, api.MaxN-1); len(l) != api.MaxN || e != api.OK {
		t.Error("Unit: the greatest", e)
	}
}

// P5.1: what is told is new memory.
func TestNew(t *testing.T) {
	x := []uint64{1, 2, 3}
	for _, l := range [][]uint64{Red(x), Scale(x, 1), Rev(x), Turn(x, 0)} {
		l[0] = 99
	}
	if !slices.Equal(x, []uint64{1, 2, 3}) {
		t.Error("shared", x)
	}
}

// P5.3
func TestLaws(t *testing.T) {
	for n := 0; n < 8; n++ {
		x, y, z := chance.Row(n, 3), chance.Row(n, 4), chance.Row(n, 5)
		if !Same(Rev(Rev(x)), x) {
			t.Error("Rev twice", n)
		}
		for k := -9; k < 9; k++ {
			if !Same(Turn(Turn(x, k), 5), Turn(x, k+5)) {
				t.Error("Turn twice", n, k)
			}
		}
		sum, _ := Add(y, z)
		all, _ := Dot(x, sum)
		one, _ := Dot(x, y)
		two, _ := Dot(x, z)
		if all != gold.Add(one, two) {
			t.Error("Dot of a sum", n)
		}
	}
}
