package fact

import (
	"math"
	"slices"
	"testing"

	"dulcimer/api"
)

func divisors(n int) []int {
	var l []int
	for d := 1; d <= n; d++ {
		if n%d == 0 {
			l = append(l, d)
		}
	}
	return l
}

// P3.1
func TestGcdPrime(t *testing.T) {
	for a := 0; a < 60; a++ {
		for b := 0; b < 60; b++ {
			want := max(a, b)
			if a > 0 && b > 0 {
				want = 1
				for d := 1; d <= a; d++ {
					if a%d == 0 && b%d == 0 {
						want = d
					}
				}
			}
			if Gcd(a, b) != want {
				t.Error("Gcd", a, b, Gcd(a, b))
			}
		}
	}
	if Gcd(-4, 6) != 0 || Gcd(4, -6) != 0 || Gcd(math.MinInt, 0) != 0 || Gcd(0, -1) != 0 || Gcd(math.MaxInt, math.MaxInt) != math.MaxInt {
		t.Error("Gcd: edges")
	}
	for n := -3; n < 3000; n++ {
		if Prime(n) != (n > 1 && len(divisors(n)) == 2) {
			t.Error("Prime", n)
		}
	}
	if !Prime(16777213) || Prime(api.MaxN) || Prime(16777259) || Prime(math.MaxInt) || Prime(math.MinInt) {
		t.Error("Prime: edges")
	}
}

// P3.2, P3.3
func TestDividers(t *testing.T) {
	if l, _ := Factors(12); !slices.Equal(l, []Power{{2, 2}, {3, 1}}) {
		t.Error("the chapter's example", l)
	}
	for n := 1; n <= 2000; n++ {
		fs, e1 := Factors(n)
		ds, e2 := Divisors(n)
		phi, e3 := Phi(n)
		up, e4 := Above(n)
		if e1 != api.OK || e2 != api.OK || e3 != api.OK || e4 != api.OK {
			t.Fatal(n, e1, e2, e3, e4)
		}
		product, many := 1, 1
		for i, f := range fs {
			if !Prime(f.Prime) || f.Exp < 1 || i > 0 && fs[i-1].Prime >= f.Prime {
				t.Error("Factors", n, fs)
			}
			for range f.Exp {
				product *= f.Prime
			}
			many *= f.Exp + 1
		}
		if product != n || many != len(ds) || !slices.Equal(ds, divisors(n)) {
			t.Error(n, fs, ds)
		}
		want := 0
		for k := 1; k <= n; k++ {
			if Gcd(k, n) == 1 {
				want++
			}
		}
		if phi != want {
			t.Error("Phi", n, phi)
		}
		if up < n || up&(up-1) != 0 || up > 1 && up/2 >= n {
			t.Error("Above", n, up)
		}
	}
}

func TestDividersEdges(t *testing.T) {
	for _, n := range []int{0, -1, api.MaxN + 1, math.MaxInt, math.MinInt} {
		fs, e1 := Factors(n)
		ds, e2 := Divisors(n)
		phi, e3 := Phi(n)
		up, e4 := Above(n)
		if e1 != api.ErrRange || e2 != api.ErrRange || e3 != api.ErrRange || e4 != api.ErrRange || len(fs) != 0 || len(ds) != 0 || phi != 0 || up != 0 {
			t.Error(n)
		}
	}
	if fs, e := Factors(api.MaxN); e != api.OK || !slices.Equal(fs, []Power{{2, 24}}) {
		t.Error(fs, e)
	}
	if fs, e := Factors(16777213); e != api.OK || !slices.Equal(fs, []Power{{16777213, 1}}) {
		t.Error(fs, e)
	}
	if fs, e := Factors(4093 * 4093); e != api.OK || !slices.Equal(fs, []Power{{4093, 2}}) {
		t.Error(fs, e)
	}
	if ds, _ := Divisors(api.MaxN); len(ds) != 25 || ds[24] != api.MaxN {
		t.Error(ds)
	}
	if up, e := Above(api.MaxN - 1); up != api.MaxN || e != api.OK {
		t.Error(up, e)
	}
	if phi, _ := Phi(16777213); phi != 16777212 {
		t.Error(phi)
	}
}
