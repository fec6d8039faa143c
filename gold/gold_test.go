package gold

import (
	"math/big"
	"testing"

	"dulcimer/api"
	"dulcimer/chance"
	"dulcimer/wide"
)

const p = api.P

func numbers() []uint64 {
	l := []uint64{0, 1, 2, 3, 7, 1<<16 + 1, 1 << 31, 1<<32 - 2, 1<<32 - 1, 1 << 32, 1<<32 + 1, 1<<63 - 1, 1 << 63, p - 2, p - 1, p, p + 1, p + 2, 1<<64 - 2, 1<<64 - 1}
	return append(l, chance.Row(30, 12345)...)
}

func of(a uint64) *big.Int { return new(big.Int).SetUint64(a) }

func mod(n *big.Int) uint64 { return new(big.Int).Mod(n, of(p)).Uint64() }

// P2.1
func TestReckon(t *testing.T) {
	if Mul(1<<32, 1<<32) != 1<<32-1 {
		t.Error("the chapter's example")
	}
	for _, a := range numbers() {
		if Red(a) != mod(of(a)) || Neg(a) != mod(new(big.Int).Neg(of(a))) {
			t.Error("Red, Neg", a)
		}
		if h := Half(a); h >= p || Add(h, h) != Red(a) {
			t.Error("Half", a, h)
		}
		for _, b := range numbers() {
			if Add(a, b) != mod(new(big.Int).Add(of(a), of(b))) {
				t.Error("Add", a, b)
			}
			if Sub(a, b) != mod(new(big.Int).Sub(of(a), of(b))) {
				t.Error("Sub", a, b)
			}
			if Mul(a, b) != mod(new(big.Int).Mul(of(a), of(b))) {
				t.Error("Mul", a, b)
			}
			x := new(big.Int).Lsh(of(a), 64)
			if Wide(wide.Int{Hi: a, Lo: b}) != mod(x.Add(x, of(b))) {
				t.Error("Wide", a, b)
			}
		}
	}
	if Sum() != 0 || Sum(p) != 0 || Sum(p-1, 2, 1<<64-1) != 1<<32-1 {
		t.Error("Sum")
	}
	l := []uint64{p + 1, 2}
	if Sum(l...) != 3 || l[0] != p+1 {
		t.Error("Sum changes what it is handed")
	}
}

// P2.2
func TestPow(t *testing.T) {
	for _, a := range numbers() {
		for _, n := range numbers() {
			if Pow(a, n) != new(big.Int).Exp(of(a), of(n), of(p)).Uint64() {
				t.Error("Pow", a, n)
			}
		}
	}
	if Pow(0, 0) != 1 || Pow(p, 0) != 1 || Pow(0, 1) != 0 || Pow(3, p) != 3 || Pow(3, p-1) != 1 {
		t.Error("Pow: its edges")
	}
	if Inv(0) != 0 || Inv(p) != 0 || Inv(1) != 1 || Inv(p+1) != 1 || Inv(2) != (p+1)/2 {
		t.Error("Inv: its edges")
	}
}

// P2.3
func TestField(t *testing.T) {
	for _, a := range numbers() {
		if Red(a) != 0 && Mul(a, Inv(a)) != 1 {
			t.Error("Inv", a)
		}
		for _, b := range numbers() {
			if Add(a, b) != Add(b, a) || Mul(a, b) != Mul(b, a) || Add(Sub(a, b), b) != Red(a) {
				t.Error("order", a, b)
			}
			for _, c := range numbers() {
				if Mul(a, Add(b, c)) != Add(Mul(a, b), Mul(a, c)) || Mul(Mul(a, b), c) != Mul(a, Mul(b, c)) || Add(Add(a, b), c) != Add(a, Add(b, c)) {
					t.Fatal("brackets", a, b, c)
				}
			}
		}
	}
}
