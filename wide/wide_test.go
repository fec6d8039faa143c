package wide

import (
	"math"
	"math/big"
	"testing"

	"dulcimer/api"
)

func numbers() []uint64 {
	return []uint64{0, 1, 2, 3, 5, 1 << 31, 1<<32 - 1, 1 << 32, 1<<63 - 1, 1 << 63, 1<<64 - 2, 1<<64 - 1, 0x123456789abcdef0}
}

func ints() []Int {
	var l []Int
	for _, hi := range numbers() {
		for _, lo := range numbers() {
			l = append(l, Int{hi, lo})
		}
	}
	return l
}

func of(x Int) *big.Int {
	n := new(big.Int).SetUint64(x.Hi)
	return n.Lsh(n, 64).Add(n, new(big.Int).SetUint64(x.Lo))
}

func around(n *big.Int) *big.Int {
	return n.Mod(n, new(big.Int).Lsh(big.NewInt(1), 128))
}

// P1.1
func TestNumbers(t *testing.T) {
	if Of(7) != (Int{0, 7}) {
		t.Error("Of")
	}
	if Mul(1<<40, 1<<40) != (Int{1 << 16, 0}) {
		t.Error("Mul: the chapter's example")
	}
	for _, a := range numbers() {
		for _, b := range numbers() {
			if got := of(Mul(a, b)); got.Cmp(new(big.Int).Mul(of(Of(a)), of(Of(b)))) != 0 {
				t.Error("Mul", a, b)
			}
		}
	}
	for _, x := range ints() {
		for _, y := range ints() {
			if of(x.Add(y)).Cmp(around(new(big.Int).Add(of(x), of(y)))) != 0 {
				t.Error("Add", x, y)
			}
			if of(x.Sub(y)).Cmp(around(new(big.Int).Sub(of(x), of(y)))) != 0 {
				t.Error("Sub", x, y)
			}
			if x.Cmp(y) != of(x).Cmp(of(y)) {
				t.Error("Cmp", x, y)
			}
		}
	}
}

// P1.2, P1.4
func TestDiv(t *testing.T) {
	for _, x := range ints() {
		for _, b := range numbers() {
			q, r, e := x.Div(b)
			if b == 0 {
				if q != (Int{}) || r != 0 || e != api.ErrArg {
					t.Error("Div by 0", x, q, r, e)
				}
				continue
			}
			wq, wr := new(big.Int).QuoRem(of(x), of(Of(b)), new(big.Int))
			if e != api.OK || of(q).Cmp(wq) != 0 || of(Of(r)).Cmp(wr) != 0 {
				t.Error("Div", x, b, q, r, e)
			}
			back := Mul(q.Lo, b).Add(Int{Hi: q.Hi * b}).Add(Of(r))
			if back != x {
				t.Error("quotient times divisor, and rest", x, b)
			}
		}
		for _, y := range ints() {
			if x.Add(y).Sub(y) != x {
				t.Error("Add, Sub", x, y)
			}
		}
	}
}

// P1.3
func TestLeft(t *testing.T) {
	for _, x := range ints() {
		for n := -130; n <= 130; n++ {
			var want *big.Int
			if n < 0 {
				want = new(big.Int).Rsh(of(x), uint(-n))
			} else {
				want = around(new(big.Int).Lsh(of(x), uint(n)))
			}
			if of(x.Left(n)).Cmp(want) != 0 {
				t.Error("Left", x, n, x.Left(n))
			}
		}
		if x.Left(math.MinInt) != (Int{}) || x.Left(math.MaxInt) != (Int{}) {
			t.Error("Left, far", x)
		}
		if x.Len() != of(x).BitLen() {
			t.Error("Len", x, x.Len())
		}
	}
}
