package atom

import (
	"math"
	"slices"
	"testing"

	"dulcimer/duty"
	"dulcimer/watch"
)

// P29.1
func TestInt(t *testing.T) {
	var a Int
	if a.Load(nil) != 0 || a.Add(nil, 5) != 5 || !a.Swap(nil, 5, 7) || a.Load(nil) != 7 || a.Peek() != 7 {
		t.Error("the chapter's example")
	}
	if a.Swap(nil, 5, 9) || a.Peek() != 7 || !a.Swap(nil, 7, math.MaxInt) || a.Add(nil, 1) != math.MinInt || a.Add(nil, math.MinInt) != 0 {
		t.Error("Swap, and coming round")
	}
	var none *Int
	yields := watch.Run(t.Error, nil, 9,
		func(th *duty.Thread) {
			if none.Load(th) != 0 || none.Add(th, 3) != 0 || none.Swap(th, 0, 0) || none.Peek() != 0 || a.Peek() != 0 {
				t.Error("nil")
			}
		},
		func(th *duty.Thread) { a.Load(th) }, func(th *duty.Thread) { a.Add(th, 1) }, func(th *duty.Thread) { a.Swap(th, 1, 2) }, func(th *duty.Thread) { a.Peek() },
	)
	if !slices.Equal(yields.Order, []int{0, 1, 2, 3, 4, 1, 2, 3}) || a.Peek() != 2 {
		t.Error("all but Peek yield once", yields, a.Peek())
	}
}

// P29.1: the yield is ahead of the change.
func TestYieldFirst(t *testing.T) {
	var a Int
	watch.Run(t.Error, []int{0, 1, 0, 1}, 0,
		func(th *duty.Thread) { a.Add(th, 5) },
		func(th *duty.Thread) {
			if a.Peek() != 0 {
				t.Error("Add ahead of its yield")
			}
			if got := a.Load(th); got != 5 {
				t.Error("Load ahead of its yield", got)
			}
		},
	)
}

// P29.2
func TestOnce(t *testing.T) {
	var o, p Once
	n := 0
	if o.Done() || !o.Do(func() { n++ }) || !o.Done() || o.Do(func() { n++ }) || o.Do(nil) || n != 1 {
		t.Error("Once", n)
	}
	if !p.Do(nil) || !p.Done() || p.Do(func() { n++ }) || n != 1 {
		t.Error("nil is something, too", n)
	}
	var none *Once
	if none.Do(func() { n++ }) || none.Done() || n != 1 {
		t.Error("nil")
	}
}

// P29.3
func TestSum(t *testing.T) {
	var a Int
	var o Once
	sum, did := 0, 0
	one := func(th *duty.Thread) {
		for i := range 5 {
			a.Add(th, th.ID()*10-i)
			sum += th.ID()*10 - i
			if o.Do(func() {}) {
				did++
			}
		}
	}
	watch.Run(t.Error, []int{3, 3, 1, 2, 0, 1, 1, 2, 2, 2}, 20, one, one, one, one)
	if a.Peek() != sum || did != 1 {
		t.Error(a.Peek(), sum, did)
	}
}
