package dft

import (
	"math"
	"slices"
	"testing"

	"dulcimer/api"
	"dulcimer/chance"
	"dulcimer/gold"
	"dulcimer/root"
	"dulcimer/vec"
)

const p = api.P

func sizes() []int { return []int{1, 2, 3, 4, 5, 6, 8, 10, 12, 15, 16, 17, 20, 24, 32, 34, 48} }

// P6.1
func TestPoint(t *testing.T) {
	for n := range 7 {
		x := chance.Row(n, 5)
		for k := -2; k < 9; k++ {
			for _, w := range []uint64{0, 1, 2, p, p + 3, 1<<64 - 1} {
				want := uint64(0)
				for j, a := range x {
					want = gold.Add(want, gold.Mul(a, gold.Pow(w, uint64(j*max(k, 0)))))
				}
				if Point(x, w, k) != want {
					t.Error("Point", n, w, k)
				}
			}
		}
	}
	if Point(nil, 3, 3) != 0 || Point([]uint64{1, 1}, 2, math.MinInt) != 2 {
		t.Error("Point: edges")
	}
	if got := Point([]uint64{0, 0, 0, 1}, 7, math.MaxInt); got != gold.Pow(gold.Pow(7, math.MaxInt), 3) {
		t.Error("Point: far", got)
	}
}

// P6.2
func TestDft(t *testing.T) {
	if l, e := Dft([]uint64{1, 2}, 0); e != api.OK || !slices.Equal(l, []uint64{3, p - 1}) {
		t.Error("the chapter's example", l, e)
	}
	for _, n := range sizes() {
		x := chance.Row(n, 7)
		keep := slices.Clone(x)
		for dir := range 2 {
			w, _ := root.Root(n)
			if dir == 1 {
				w, _ = root.Back(n)
			}
			l, e := Dft(x, dir)
			if e != api.OK || len(l) != n {
				t.Fatal(n, dir, e)
			}
			for k := range l {
				if l[k] != Point(x, w, k) {
					t.Error("Dft", n, dir, k)
				}
			}
		}
		if !slices.Equal(x, keep) {
			t.Error("changed", n)
		}
	}
}

// P6.2
func TestWrong(t *testing.T) {
	for _, f := range []func([]uint64, int) ([]uint64, api.Errno){Dft, Undo} {
		for _, c := range []struct {
			n, dir int
			e      api.Errno
		}{
			{2, 2, api.ErrArg}, {2, -1, api.ErrArg}, {7, 2, api.ErrArg}, {0, 0, api.ErrSize}, {0, 5, api.ErrArg}, {7, 0, api.ErrSize},
			{4097, 0, api.ErrSize}, {4112, 1, api.ErrBig}, {8192, 0, api.ErrBig}, {8192, 3, api.ErrArg}, {4096, 1, api.OK},
		} {
			l, e := f(make([]uint64, c.n), c.dir)
			if e != c.e || e != api.OK && len(l) != 0 {
				t.Error(c, e)
			}
		}
	}
}

// P6.3
func TestLaws(t *testing.T) {
	for _, n := range sizes() {
		x, y := chance.Row(n, 8), chance.Row(n, 9)
		for dir := range 2 {
			fx, _ := Dft(x, dir)
			fy, _ := Dft(y, dir)
			if l, e := Undo(fx, dir); e != api.OK || !slices.Equal(l, vec.Red(x)) {
				t.Error("Undo of Dft", n, dir)
			}
			ux, _ := Undo(x, dir)
			if l, _ := Dft(ux, dir); !slices.Equal(l, vec.Red(x)) {
				t.Error("Dft of Undo", n, dir)
			}
			sum, _ := vec.Add(x, y)
			both, _ := vec.Add(fx, fy)
			if l, _ := Dft(sum, dir); !slices.Equal(l, both) {
				t.Error("sum", n, dir)
			}
			if l, _ := Dft(fx, dir); !slices.Equal(l, vec.Scale(vec.Rev(x), uint64(n))) {
				t.Error("twice", n, dir)
			}
			w, _ := base(n, dir)
			for m := range 3 {
				l, _ := Dft(vec.Turn(x, m), dir)
				for k := range l {
					if l[k] != gold.Mul(fx[k], gold.Inv(gold.Pow(w, uint64(m*k)))) {
						t.Error("turned", n, dir, m, k)
					}
				}
			}
		}
	}
}
