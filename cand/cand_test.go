package cand

import (
	"math"
	"testing"

	"dulcimer/api"
	"dulcimer/cost"
	"dulcimer/desc"
	"dulcimer/root"
	"dulcimer/valid"
)

func same(l, m []api.Desc) bool {
	if len(l) != len(m) {
		return false
	}
	for i := range l {
		if !desc.Same(l[i], m[i]) {
			return false
		}
	}
	return true
}

// P19.1
func TestPlain(t *testing.T) {
	stock := func(n int) api.Desc { return of(api.Stock, n) }
	for n, want := range map[int]api.Desc{
		1: of(api.Naive, 1), 2: of(api.Small, 2), 3: of(api.Small, 3), 4: of(api.Small, 4), 5: of(api.Small, 5), 6: of(api.Naive, 6), 8: stock(8), 17: of(api.Naive, 17), 51: of(api.Naive, 51), 60: of(api.Naive, 60), 64: stock(64),
		96: of(api.Split, 96, of(api.Small, 3), stock(32)), 257: of(api.Rader, 257, stock(256)), 65537: of(api.Rader, 65537, stock(65536)), 68: of(api.Split, 68, of(api.Naive, 17), of(api.Small, 4)),
		255: of(api.Split, 255, of(api.Naive, 17), of(api.Naive, 15)), 771: of(api.Split, 771, of(api.Rader, 257, stock(256)), of(api.Small, 3)), api.MaxN: stock(api.MaxN),
		480: of(api.Split, 480, of(api.Small, 5), of(api.Split, 96, of(api.Small, 3), stock(32))),
	} {
		if d, e := Plain(n); e != api.OK || !desc.Same(d, want) {
			t.Error("Plain", n, d, e)
		}
	}
}

// P19.2
func TestList(t *testing.T) {
	stock := func(n int) api.Desc { return of(api.Stock, n) }
	for n, want := range map[int][]api.Desc{
		1:  {of(api.Naive, 1)},
		2:  {of(api.Naive, 2), of(api.Small, 2), stock(2), of(api.Blue, 2, of(api.Small, 4))},
		4:  {of(api.Naive, 4), of(api.Small, 4), stock(4), of(api.Split, 4, of(api.Small, 2), of(api.Small, 2)), of(api.Blue, 4, stock(8))},
		3:  {of(api.Naive, 3), of(api.Small, 3), of(api.Rader, 3, of(api.Small, 2)), of(api.Blue, 3, stock(8))},
		64: {of(api.Naive, 64), stock(64), of(api.Split, 64, of(api.Small, 2), stock(32)), of(api.Blue, 64, stock(128))},
		5:  {of(api.Naive, 5), of(api.Small, 5), of(api.Rader, 5, of(api.Small, 4)), of(api.Blue, 5, stock(16))},
		12: {of(api.Naive, 12), of(api.Split, 12, of(api.Small, 2), of(api.Naive, 6)), of(api.Split, 12, of(api.Small, 3), of(api.Small, 4)),
			of(api.Good, 12, of(api.Small, 4), of(api.Small, 3)), of(api.Good, 12, of(api.Small, 3), of(api.Small, 4)), of(api.Blue, 12, stock(32))},
		257:      {of(api.Rader, 257, stock(256)), of(api.Blue, 257, stock(1024))},
		api.MaxN: {stock(api.MaxN), of(api.Split, api.MaxN, of(api.Small, 2), stock(api.MaxN/2))},
		1 << 23:  {stock(1 << 23), of(api.Split, 1<<23, of(api.Small, 2), stock(1<<22)), of(api.Blue, 1<<23, stock(api.MaxN))},
	} {
		if l, e := List(n); e != api.OK || !same(l, want) {
			t.Error("List", n, l, e)
		}
	}
}

// P19.2
func TestBest(t *testing.T) {
	for _, n := range root.Sizes(5000) {
		l, _ := List(n)
		i, _ := cost.Least(l)
		if d, e := Best(n); e != api.OK || !desc.Same(d, l[i]) {
			t.Error("Best", n, d, e)
		}
	}
}

func TestWrong(t *testing.T) {
	for _, n := range []int{0, -1, 7, 2 * api.MaxN, math.MaxInt, math.MinInt} {
		p, e1 := Plain(n)
		l, e2 := List(n)
		b, e3 := Best(n)
		if e1 != api.ErrSize || e2 != api.ErrSize || e3 != api.ErrSize || len(l) != 0 || !desc.Same(p, api.Desc{}) || !desc.Same(b, api.Desc{}) {
			t.Error(n, e1, e2, e3)
		}
	}
}

// P19.3
func TestAll(t *testing.T) {
	for _, n := range root.Sizes(api.MaxN) {
		l, e := List(n)
		if e != api.OK || len(l) < 1 || len(l) > api.MaxCands {
			t.Error(n, len(l), e)
		}
		p, _ := Plain(n)
		for i, d := range append(l, p) {
			if d.N != n || valid.Check(d) != api.OK {
				t.Error("no plan", n, d)
			}
			for j := range min(i, len(l)) {
				if i < len(l) && desc.Same(l[j], d) {
					t.Error("twice", n, d)
				}
			}
		}
	}
}
