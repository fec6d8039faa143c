package root

import (
	"math"
	"slices"
	"testing"

	"dulcimer/api"
	"dulcimer/gold"
)

// P4.1
func TestSizes(t *testing.T) {
	if w, e := Root(2); w != api.P-1 || e != api.OK {
		t.Error("Root(2)", w, e)
	}
	if w, e := Root(4); w != 1<<48 || e != api.OK {
		t.Error("Root(4)", w, e)
	}
	for n := -3; n < 70000; n++ {
		has := n > 0 && (api.P-1)%uint64(max(n, 1)) == 0
		if Has(n) != has {
			t.Error("Has", n)
		}
		if has {
			continue
		}
		w, e := Root(n)
		v, f := Back(n)
		if w != 0 || v != 0 || e != api.ErrSize || f != api.ErrSize {
			t.Error("no size", n, w, e, v, f)
		}
	}
	if !Has(api.MaxN) || Has(2*api.MaxN) || Has(math.MaxInt) || Has(math.MinInt) || !Has(3*5*17*257) || !Has(65537*255) {
		t.Error("Has: edges")
	}
	for _, n := range Sizes(api.MaxN) {
		w, e := Root(n)
		v, f := Back(n)
		if e != api.OK || f != api.OK || w != gold.Pow(7, (api.P-1)/uint64(n)) || gold.Mul(v, w) != 1 {
			t.Error("Root, Back", n)
		}
	}
}

// P4.2, P4.4
func TestOrder(t *testing.T) {
	for _, a := range []uint64{0, api.P} {
		if o, e := Order(a); o != 0 || e != api.ErrArg {
			t.Error("Order", a, o, e)
		}
	}
	for _, n := range Sizes(api.MaxN) {
		w, _ := Root(n)
		if o, e := Order(w); o != uint64(n) || e != api.OK {
			t.Error("Order of Root", n, o, e)
		}
		for _, d := range Sizes(n) {
			if n%d != 0 {
				continue
			}
			if v, _ := Root(d); v != gold.Pow(w, uint64(n/d)) {
				t.Error("Root of a divisor", n, d)
			}
		}
	}
	if o, e := Order(api.P + 1); o != 1 || e != api.OK {
		t.Error("Order of 1", o, e)
	}
	if o, _ := Order(7); o != api.P-1 {
		t.Error("Order of 7", o)
	}
	if o, _ := Order(2); o != 192 {
		t.Error("Order of 2", o)
	}
}

// P4.3
func TestPowers(t *testing.T) {
	for _, n := range []int{-1, math.MinInt, api.MaxN + 1} {
		if l, e := Powers(3, n); len(l) != 0 || e != api.ErrRange {
			t.Error("Powers", n, e)
		}
	}
	if l, e := Powers(3, 0); len(l) != 0 || e != api.OK {
		t.Error(l, e)
	}
	if l, e := Powers(api.P+3, 5); !slices.Equal(l, []uint64{1, 3, 9, 27, 81}) || e != api.OK {
		t.Error(l, e)
	}
	if l, e := Powers(0, 3); !slices.Equal(l, []uint64{1, 0, 0}) || e != api.OK {
		t.Error(l, e)
	}
	if l, e := Powers(1, api.MaxN); len(l) != api.MaxN || e != api.OK {
		t.Error(len(l), e)
	}
}

// P4.3
func TestList(t *testing.T) {
	for _, most := range []int{math.MinInt, -1, 0, 1, 2, 16, 17, 100, 65536, 65537, 70000} {
		var want []int
		for n := 1; n <= most; n++ {
			if Has(n) {
				want = append(want, n)
			}
		}
		if got := Sizes(most); !slices.Equal(got, want) {
			t.Error("Sizes", most, got, want)
		}
	}
	all := 0
	for n := 1; n <= api.MaxN; n++ {
		if Has(n) {
			all++
		}
	}
	if l := Sizes(math.MaxInt); len(l) != all || !slices.IsSorted(l) || !slices.Equal(l, Sizes(api.MaxN)) {
		t.Error("all sizes", len(l), all)
	}
}
