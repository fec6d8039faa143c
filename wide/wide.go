// Package wide has numbers of 128 bits, without a sign.
package wide

import (
	"math/bits"

	"dulcimer/api"
)

// Int is the number Hi times 2^64, and Lo.
type Int struct{ Hi, Lo uint64 }

// Of tells n as a number of 128 bits.
func Of(n uint64) Int { return Int{Lo: n} }

// Mul tells the whole product.
func Mul(a, b uint64) Int {
	hi, lo := bits.Mul64(a, b)
	return Int{Hi: hi, Lo: lo}
}

// Add tells the sum, modulo 2^128.
func (x Int) Add(y Int) Int {
	lo, carry := bits.Add64(x.Lo, y.Lo, 0)
	hi, _ := bits.Add64(x.Hi, y.Hi, carry)
	return Int{Hi: hi, Lo: lo}
}

// Sub tells the difference, modulo 2^128.
func (x Int) Sub(y Int) Int {
	lo, borrow := bits.Sub64(x.Lo, y.Lo, 0)
	hi, _ := bits.Sub64(x.Hi, y.Hi, borrow)
	return Int{Hi: hi, Lo: lo}
}

// Cmp tells -1, 0 or 1: x is below y, the same, above.
func (x Int) Cmp(y Int) int {
	if x == y {
		return 0
	}
	if x.Hi < y.Hi || x.Hi == y.Hi && x.Lo < y.Lo {
		return -1
	}
	return 1
}

// Div tells the quotient, cut off, and the rest.
func (x Int) Div(b uint64) (Int, uint64, api.Errno) {
	if b == 0 {
		return Int{}, 0, api.ErrArg
	}
	// The rest of the upper half is below b, so the lower quotient has room.
	lo, rest := bits.Div64(x.Hi%b, x.Lo, b)
	return Int{Hi: x.Hi / b, Lo: lo}, rest, api.OK
}

// Left tells x times 2^n, modulo 2^128; of n below 0 it goes right.
func (x Int) Left(n int) Int {
	switch {
	case n >= 128 || n <= -128:
		return Int{}
	case n >= 64:
		return Int{Hi: x.Lo << (n - 64)}
	case n >= 0:
		return Int{Hi: x.Hi<<n | x.Lo>>(64-n), Lo: x.Lo << n}
	case n > -64:
		return Int{Hi: x.Hi >> -n, Lo: x.Lo>>-n | x.Hi<<(64+n)}
	default:
		return Int{Lo: x.Hi >> (-n - 64)}
	}
}

// Len tells how many bits x has without noughts ahead.
func (x Int) Len() int {
	if x.Hi == 0 {
		return bits.Len64(x.Lo)
	}
	return 64 + bits.Len64(x.Hi)
}
