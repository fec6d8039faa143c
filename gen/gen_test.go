package gen

import (
	"math"
	"slices"
	"testing"

	"dulcimer/api"
	"dulcimer/fact"
)

func orderBySteps(q, a int) int {
	p := a
	for n := 1; ; n++ {
		if p%q == 1%q {
			return n
		}
		p = p * a % q
	}
}

// P9.1, P9.2, P9.3
func TestGen(t *testing.T) {
	if g, _ := Gen(7); g != 3 {
		t.Error("the chapter's example", g)
	}
	if l, _ := Powers(7); !slices.Equal(l, []int{1, 3, 2, 6, 4, 5}) {
		t.Error("the chapter's example", l)
	}
	for q := 2; q < 200; q++ {
		if !fact.Prime(q) {
			continue
		}
		least := 0
		for a := 1; a < q; a++ {
			o, e := Order(q, a)
			if e != api.OK || o != orderBySteps(q, a) {
				t.Error("Order", q, a, o, e)
			}
			if least == 0 && o == q-1 {
				least = a
			}
		}
		g, e1 := Gen(q)
		powers, e2 := Powers(q)
		logs, e3 := Logs(q)
		if e1 != api.OK || e2 != api.OK || e3 != api.OK || g != least || len(powers) != q-1 || len(logs) != q-1 || powers[0] != 1 {
			t.Fatal(q, g, least, e1, e2, e3)
		}
		for i := range powers {
			if i > 0 && powers[i] != powers[i-1]*g%q {
				t.Error("Powers", q, powers)
			}
			if logs[powers[i]-1] != i || powers[logs[i]] != i+1 {
				t.Error("Logs", q)
			}
			for j := range powers {
				if logs[(i+1)*(j+1)%q-1] != (logs[i]+logs[j])%(q-1) {
					t.Fatal("Logs of a product", q, i, j)
				}
			}
		}
	}
}

func TestGreat(t *testing.T) {
	for q, want := range map[int]int{2: 1, 3: 2, 5: 2, 17: 3, 257: 3, 65537: 3, 131071: 3} {
		if g, e := Gen(q); g != want || e != api.OK {
			t.Error("Gen", q, g, e)
		}
	}
	if l, e := Logs(131071); len(l) != 131070 || e != api.OK {
		t.Error(e)
	}
}

func TestWrong(t *testing.T) {
	for _, q := range []int{0, 1, -7, 4, 9, 65536, 1 << 17, 131101, math.MaxInt, math.MinInt} {
		g, e1 := Gen(q)
		p, e2 := Powers(q)
		l, e3 := Logs(q)
		o, e4 := Order(q, 0)
		if g != 0 || o != 0 || len(p)+len(l) != 0 || e1 != api.ErrArg || e2 != api.ErrArg || e3 != api.ErrArg || e4 != api.ErrArg {
			t.Error(q, e1, e2, e3, e4)
		}
	}
	for _, a := range []int{0, -1, 7, 8, math.MaxInt, math.MinInt} {
		if o, e := Order(7, a); o != 0 || e != api.ErrRange {
			t.Error(a, o, e)
		}
	}
}
