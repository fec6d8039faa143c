package chirp

import (
	"math"
	"slices"
	"testing"

	"dulcimer/api"
	"dulcimer/chance"
	"dulcimer/conv"
	"dulcimer/dft"
	"dulcimer/gold"
	"dulcimer/root"
)

func rootOf(n, dir int) uint64 {
	w, _ := root.Root(n)
	if dir == 1 {
		w = gold.Inv(w)
	}
	return w
}

// P12.1
func TestTri(t *testing.T) {
	if i, e := Tri(96, 4); i != 6 || e != api.OK {
		t.Error("the chapter's example", i, e)
	}
	for _, n := range root.Sizes(60) {
		for i := range 200 {
			if got, e := Tri(n, i); got != i*(i-1)/2%n || e != api.OK {
				t.Error("Tri", n, i, got, e)
			}
		}
	}
	for _, c := range []struct {
		n, i int
		e    api.Errno
	}{{7, 1, api.ErrSize}, {0, -1, api.ErrSize}, {-4, 1, api.ErrSize}, {4, -1, api.ErrRange}, {4, 1<<26 + 1, api.ErrRange}, {4, math.MaxInt, api.ErrRange}, {4, math.MinInt, api.ErrRange}} {
		if got, e := Tri(c.n, c.i); got != 0 || e != c.e {
			t.Error(c, got, e)
		}
	}
	if got, e := Tri(5, 1<<26); e != api.OK || got != (1<<25)%5*((1<<26-1)%5)%5 {
		t.Error("the greatest", got, e)
	}
}

// P12.1
func TestRow(t *testing.T) {
	for _, n := range root.Sizes(40) {
		for dir := range 2 {
			for _, many := range []int{0, 1, 2, n, 2*n - 1, 3*n + 2} {
				l, e := Row(n, dir, many)
				if e != api.OK || len(l) != many {
					t.Fatal(n, dir, many, e)
				}
				for i := range l {
					k, _ := Tri(n, i)
					if l[i] != gold.Pow(rootOf(n, dir), uint64(k)) {
						t.Error("Row", n, dir, i)
					}
				}
			}
		}
	}
	for _, c := range []struct {
		n, dir, many int
		e            api.Errno
	}{{7, 2, -1, api.ErrSize}, {8, 2, -1, api.ErrArg}, {8, -1, 3, api.ErrArg}, {8, 0, -1, api.ErrRange}, {8, 1, 1<<25 + 1, api.ErrRange}, {8, math.MinInt, 1, api.ErrArg}} {
		if l, e := Row(c.n, c.dir, c.many); len(l) != 0 || e != c.e {
			t.Error(c, e)
		}
	}
}

// P12.1
func TestRowGreatest(t *testing.T) {
	if l, e := Row(2, 0, 1<<25); e != api.OK || len(l) != 1<<25 || l[2] != api.P-1 {
		t.Error(len(l), e)
	}
}

// P12.1
func TestLeast(t *testing.T) {
	if m, _ := Least(3); m != 8 {
		t.Error("the chapter's example", m)
	}
	for _, n := range root.Sizes(1 << 23) {
		m, e := Least(n)
		if e != api.OK || m&(m-1) != 0 || m < 2*n-1 || m > 1 && m/2 >= 2*n-1 {
			t.Error("Least", n, m, e)
		}
	}
	for _, n := range root.Sizes(api.MaxN) {
		m, e := Least(n)
		if n > 1<<23 && (m != 0 || e != api.ErrRange) {
			t.Error("Least", n, m, e)
		}
	}
	if m, e := Least(7); m != 0 || e != api.ErrSize {
		t.Error(m, e)
	}
}

// P12.2
func TestKernelForeAft(t *testing.T) {
	for _, n := range root.Sizes(24) {
		m, _ := Least(n)
		for dir := range 2 {
			k, e := Kernel(n, m, dir)
			r, _ := Row(n, dir, 2*n-1)
			if e != api.OK || len(k) != m || !slices.Equal(k[:2*n-1], r) || slices.Max(append(k[2*n-1:], 0)) != 0 {
				t.Error("Kernel", n, m, dir, e)
			}
			x, c := chance.Row(n, 1), chance.Row(2*n-1, 2)
			keep := slices.Clone(x)
			f, e1 := Fore(x, dir)
			a, e2 := Aft(c, n, dir)
			if e1 != api.OK || e2 != api.OK || len(f) != n || len(a) != n {
				t.Fatal(n, dir, e1, e2)
			}
			for j := range n {
				i, _ := Tri(n, j)
				p := gold.Inv(gold.Pow(rootOf(n, dir), uint64(i)))
				if f[n-1-j] != gold.Mul(x[j], p) || a[j] != gold.Mul(c[n-1+j], p) {
					t.Error("Fore, Aft", n, dir, j)
				}
			}
			if longer, e := Aft(append(slices.Clone(c), 5), n, dir); e != api.OK || !slices.Equal(longer, a) || !slices.Equal(x, keep) {
				t.Error("Aft of more", n)
			}
		}
	}
	if k, e := Kernel(3, 6, 0); e != api.OK || len(k) != 6 {
		t.Error("a size that is no power of two", e)
	}
}

// P12.2
func TestWrong(t *testing.T) {
	for _, c := range []struct {
		n, m, dir int
		e         api.Errno
	}{{7, 1, 2, api.ErrSize}, {4, 1, 2, api.ErrArg}, {4, 6, 0, api.ErrLen}, {4, 7, 0, api.ErrLen}, {4, -8, 0, api.ErrLen}, {4, 1 << 25, 1, api.ErrLen}, {4, 8, -1, api.ErrArg}} {
		if l, e := Kernel(c.n, c.m, c.dir); len(l) != 0 || e != c.e {
			t.Error("Kernel", c, e)
		}
	}
	for _, c := range []struct {
		n, dir int
		e      api.Errno
	}{{0, 2, api.ErrSize}, {7, 0, api.ErrSize}, {4, 2, api.ErrArg}, {4, -1, api.ErrArg}, {4, math.MinInt, api.ErrArg}} {
		if l, e := Fore(make([]uint64, c.n), c.dir); len(l) != 0 || e != c.e {
			t.Error("Fore", c, e)
		}
		if l, e := Aft(nil, c.n, c.dir); len(l) != 0 || e != c.e {
			t.Error("Aft", c, e)
		}
	}
	if l, e := Aft(make([]uint64, 6), 4, 0); len(l) != 0 || e != api.ErrLen {
		t.Error(e)
	}
}

// P12.3
func TestWay(t *testing.T) {
	for _, n := range root.Sizes(60) {
		m, _ := Least(n)
		for dir := range 2 {
			x := chance.Row(n, 3)
			f, _ := Fore(x, dir)
			padded, _ := conv.Pad(f, m)
			k, _ := Kernel(n, m, dir)
			c, _ := conv.Cyclic(padded, k)
			got, e := Aft(c, n, dir)
			if want, _ := dft.Dft(x, dir); e != api.OK || !slices.Equal(got, want) {
				t.Error("no transform", n, dir)
			}
		}
	}
}
