package perm

import (
	"math"
	"slices"
	"testing"

	"dulcimer/api"
	"dulcimer/fact"
)

// orders tells all orders of n places.
func orders(n int) [][]int {
	if n == 0 {
		return [][]int{{}}
	}
	var l [][]int
	for _, p := range orders(n - 1) {
		for i := range n {
			l = append(l, slices.Insert(slices.Clone(p), i, n-1))
		}
	}
	return l
}

func wrong() [][]int { return [][]int{{1}, {-1}, {0, 0}, {0, 2}, {2, 1, 2}, {math.MinInt, 0}} }

// P8.1
func TestOrders(t *testing.T) {
	x := []uint64{api.P, 11, 12, 13}
	for n := range 5 {
		for _, p := range orders(n) {
			keep := slices.Clone(p)
			if !Right(p) {
				t.Error("Right", p)
			}
			q, e := Inverse(p)
			if e != api.OK || len(q) != n {
				t.Error("Inverse", p, e)
			}
			for i, to := range p {
				if q[to] != i {
					t.Error("Inverse", p, q)
				}
			}
			l, e := Apply(p, x[:n])
			if e != api.OK || len(l) != n {
				t.Error("Apply", e)
			}
			for i := range p {
				if l[i] != x[p[i]] {
					t.Error("Apply", p, l)
				}
			}
			if back, _ := Apply(q, l); !slices.Equal(back, x[:n]) {
				t.Error("Apply, and back", p)
			}
			for _, r := range orders(n) {
				m, e := After(p, r)
				if e != api.OK || len(m) != n {
					t.Error("After", e)
				}
				for i := range p {
					if m[i] != p[r[i]] {
						t.Error("After", p, r, m)
					}
				}
			}
			if !slices.Equal(p, keep) {
				t.Error("changed")
			}
		}
	}
	for _, p := range wrong() {
		_, e1 := Inverse(p)
		_, e2 := After(p, []int{0})
		_, e3 := After([]int{0}, p)
		l, e4 := Apply(p, x)
		if Right(p) || e1 != api.ErrArg || e2 != api.ErrArg || e3 != api.ErrArg || e4 != api.ErrArg || len(l) != 0 {
			t.Error("no order", p)
		}
	}
	if l, e := After([]int{0}, []int{1, 0}); e != api.ErrLen || len(l) != 0 {
		t.Error(e)
	}
	if l, e := Apply([]int{0}, x); e != api.ErrLen || len(l) != 0 {
		t.Error(e)
	}
}

// P8.2
func TestGrids(t *testing.T) {
	if l, _ := Stride(2, 3); !slices.Equal(l, []int{0, 3, 1, 4, 2, 5}) {
		t.Error("Stride: the chapter's example", l)
	}
	if l, _ := Crt(2, 3); !slices.Equal(l, []int{0, 4, 2, 3, 1, 5}) {
		t.Error("Crt: the chapter's example", l)
	}
	for a := 1; a < 12; a++ {
		for b := 1; b < 12; b++ {
			s, e1 := Stride(a, b)
			g, e2 := Good(a, b)
			c, e3 := Crt(a, b)
			want := api.OK
			if fact.Gcd(a, b) != 1 {
				want = api.ErrArg
			}
			if e1 != api.OK || e2 != want || e3 != want || len(s) != a*b {
				t.Fatal(a, b, e1, e2, e3)
			}
			for i := range a {
				for j := range b {
					if s[j*a+i] != i*b+j {
						t.Error("Stride", a, b, s)
					}
					if want == api.OK && g[i*b+j] != (b*i+a*j)%(a*b) {
						t.Error("Good", a, b, g)
					}
					if want == api.OK && (c[i*b+j] >= a*b || c[i*b+j]%a != i || c[i*b+j]%b != j) {
						t.Error("Crt", a, b, c)
					}
				}
			}
			if want != api.OK && (len(g) != 0 || len(c) != 0) {
				t.Error("beside an error", a, b)
			}
		}
	}
	for _, ab := range [][2]int{{0, 1}, {1, 0}, {-1, 5}, {5, -1}, {4096, 4097}, {1 << 32, 1 << 32}, {math.MaxInt, 1}, {math.MinInt, math.MinInt}, {6, api.MaxN}} {
		s, e1 := Stride(ab[0], ab[1])
		g, e2 := Good(ab[0], ab[1])
		c, e3 := Crt(ab[0], ab[1])
		if e1 != api.ErrRange || e2 != api.ErrRange || e3 != api.ErrRange || len(s)+len(g)+len(c) != 0 {
			t.Error(ab, e1, e2, e3)
		}
	}
	if l, e := Crt(4095, 4096); e != api.OK || !Right(l) {
		t.Error("Crt: great", e)
	}
	if l, e := Stride(1, api.MaxN); e != api.OK || len(l) != api.MaxN {
		t.Error("Stride: greatest", e)
	}
	if l, e := Good(api.MaxN, 1); e != api.OK || !Right(l) {
		t.Error("Good: greatest", e)
	}
}

// P8.3
func TestBits(t *testing.T) {
	if l, _ := Bits(8); !slices.Equal(l, []int{0, 4, 2, 6, 1, 5, 3, 7}) {
		t.Error("the chapter's example", l)
	}
	var twos []int
	for n := 1; n <= 1024; n *= 2 {
		l, e := Bits(n)
		if e != api.OK || !Right(l) || len(l) != n {
			t.Error("Bits", n, e)
		}
		if m, _ := Inverse(l); !slices.Equal(m, l) {
			t.Error("Bits is its own Inverse", n)
		}
		if d, e := Digits(twos); e != api.OK || !slices.Equal(d, l) {
			t.Error("Digits of 2s", n, d, e)
		}
		twos = append(twos, 2)
	}
	for n, want := range map[int]api.Errno{0: api.ErrRange, -8: api.ErrRange, api.MaxN + 1: api.ErrRange, 2 * api.MaxN: api.ErrRange, math.MinInt: api.ErrRange, 3: api.ErrArg, 12: api.ErrArg} {
		if l, e := Bits(n); e != want || len(l) != 0 {
			t.Error("Bits", n, e)
		}
	}
	if l, e := Bits(api.MaxN); e != api.OK || len(l) != api.MaxN || l[1] != api.MaxN/2 {
		t.Error("Bits: greatest", e)
	}
}

// P8.3, P8.4
func TestDigits(t *testing.T) {
	for _, radices := range [][]int{nil, {2}, {7}, {2, 3}, {3, 2}, {2, 3, 5}, {5, 3, 2}, {4, 4, 3}, {3, 2, 2, 5}} {
		keep := slices.Clone(radices)
		l, e := Digits(radices)
		if e != api.OK || !Right(l) {
			t.Fatal(radices, e)
		}
		for place, number := range l {
			var ds []int
			rest := place
			for _, r := range radices {
				ds = append(ds, rest%r)
				rest /= r
			}
			want := 0
			for i := range radices {
				want = want*radices[i] + ds[i]
			}
			if rest != 0 || number != want {
				t.Error("Digits", radices, place, number, want)
			}
		}
		back := slices.Clone(radices)
		slices.Reverse(back)
		m, _ := Digits(back)
		if inv, _ := Inverse(l); !slices.Equal(inv, m) {
			t.Error("Digits backwards", radices)
		}
		if !slices.Equal(radices, keep) {
			t.Error("changed")
		}
	}
	for _, radices := range [][]int{{1}, {0}, {2, -1}, {api.MaxN + 1}, {4096, 4097}, {api.MaxN, 2}, {math.MaxInt, math.MaxInt}, {3, math.MinInt}, make([]int, 100)} {
		if l, e := Digits(radices); e != api.ErrRange || len(l) != 0 {
			t.Error("Digits", radices, e)
		}
	}
	if l, e := Digits([]int{api.MaxN}); e != api.OK || len(l) != api.MaxN {
		t.Error(e)
	}
}

// P8.5
func TestCycles(t *testing.T) {
	l, e := Cycles([]int{2, 1, 4, 3, 0, 6, 5})
	if e != api.OK || len(l) != 4 || !slices.Equal(l[0], []int{0, 2, 4}) || !slices.Equal(l[1], []int{1}) || !slices.Equal(l[2], []int{3}) || !slices.Equal(l[3], []int{5, 6}) {
		t.Error(l, e)
	}
	if l, e := Cycles(nil); e != api.OK || len(l) != 0 || Sign(nil) != 1 {
		t.Error(l, e)
	}
	for _, p := range wrong() {
		if l, e := Cycles(p); e != api.ErrArg || len(l) != 0 || Sign(p) != 0 {
			t.Error(p, e)
		}
	}
	for n := range 5 {
		for _, p := range orders(n) {
			swaps := 0
			for i := range p {
				for j := range i {
					if p[j] > p[i] {
						swaps++
					}
				}
			}
			if Sign(p) != 1-swaps%2*2 {
				t.Error("Sign", p)
			}
			for _, q := range orders(n) {
				if r, _ := After(p, q); Sign(r) != Sign(p)*Sign(q) {
					t.Error("Sign of After", p, q)
				}
			}
			all := 0
			l, _ := Cycles(p)
			for i, round := range l {
				all += len(round)
				if slices.Min(round) != round[0] || i > 0 && l[i-1][0] >= round[0] {
					t.Error("Cycles", p, l)
				}
				for j := range round {
					if p[round[j]] != round[(j+1)%len(round)] {
						t.Error("Cycles", p, l)
					}
				}
			}
			if all != n {
				t.Error("Cycles", p, l)
			}
		}
	}
}

// P8.4
func TestLaws(t *testing.T) {
	for a := 1; a < 9; a++ {
		for b := 1; b < 9; b++ {
			s, _ := Stride(a, b)
			r, _ := Stride(b, a)
			if inv, _ := Inverse(s); !slices.Equal(inv, r) {
				t.Error("Stride", a, b)
			}
			g, _ := Good(a, b)
			c, _ := Crt(a, b)
			if !Right(s) || !Right(g) || !Right(c) {
				t.Error("no order", a, b)
			}
		}
	}
}
