package choose

import (
	"math"
	"testing"

	"dulcimer/api"
	"dulcimer/cand"
	"dulcimer/cost"
	"dulcimer/desc"
	"dulcimer/root"
	"dulcimer/tick"
	"dulcimer/valid"
)

func of(kind, n int, kids ...api.Desc) api.Desc { return api.Desc{Kind: kind, N: n, Kids: kids} }

// P21.1
func TestMeasure(t *testing.T) {
	l := []api.Desc{of(api.Naive, 8), of(api.Stock, 2048), of(api.Split, 6, of(api.Small, 2), of(api.Small, 3))}
	c := tick.New([]int{100, 4, 1, 5, 2, 9})
	runs, e := Measure(l, 1, c)
	if e != api.OK || len(runs) != 3 || c.Asked() != 6 {
		t.Fatal(runs, e, c.Asked())
	}
	for i, want := range []int{4, 5, 9} {
		if runs[i].Ticks != want || !desc.Same(runs[i].Desc, l[i]) {
			t.Error(i, runs[i])
		}
	}
	runs[2].Desc.Kids[0].N = 9
	if l[2].Kids[0].N != 2 {
		t.Error("shared")
	}
	if runs, e := Measure(nil, 0, c); e != api.OK || len(runs) != 0 || c.Asked() != 6 {
		t.Error(runs, e)
	}
	if runs, e := Measure(l[:1], 0, nil); e != api.OK || runs[0].Ticks != 0 {
		t.Error("no clock", runs, e)
	}
	if runs, e := Measure(make([]api.Desc, 12), 0, nil); e != api.ErrDesc || len(runs) != 0 {
		t.Error(e)
	}
	full := make([]api.Desc, 12)
	for i := range full {
		full[i] = of(api.Small, 2)
	}
	if runs, e := Measure(full, 0, c); e != api.OK || len(runs) != 12 || c.Asked() != 30 {
		t.Error(e)
	}
}

// P21.1
func TestMeasureWrong(t *testing.T) {
	c := tick.New(nil)
	big := api.Desc{Kids: make([]api.Desc, 60)}
	for _, x := range []struct {
		l   []api.Desc
		dir int
		e   api.Errno
	}{
		{make([]api.Desc, 13), 2, api.ErrArg}, {nil, -1, api.ErrArg}, {make([]api.Desc, 13), 1, api.ErrBig}, {[]api.Desc{of(api.Small, 2), {}}, 1, api.ErrDesc},
		{[]api.Desc{of(api.Small, 2), big, {}}, 1, api.ErrBig}, {[]api.Desc{of(api.Small, 2), {}, big}, 1, api.ErrDesc},
	} {
		if runs, e := Measure(x.l, x.dir, c); e != x.e || len(runs) != 0 || c.Asked() != 0 {
			t.Error(x, e, c.Asked())
		}
	}
}

// P21.2
func TestFirst(t *testing.T) {
	naive, small, stock := of(api.Naive, 8), of(api.Small, 5), of(api.Stock, 8)
	for _, c := range []struct {
		l    []Run
		want int
		ok   bool
	}{
		{nil, 0, false}, {[]Run{{naive, 3}}, 0, true}, {[]Run{{naive, 3}, {stock, 3}, {small, 4}}, 1, true}, {[]Run{{stock, 3}, {naive, 2}}, 1, true},
		{[]Run{{naive, 3}, {stock, 3}, {stock, 3}, {small, 3}, {small, 3}}, 3, true}, {[]Run{{naive, 1}, {stock, math.MinInt}, {small, math.MaxInt}}, 1, true}, {[]Run{{api.Desc{}, 1}, {naive, 1}}, 1, true},
	} {
		if i, ok := First(c.l); i != c.want || ok != c.ok {
			t.Error(c, i, ok)
		}
	}
}

// P21.3, P21.4
func TestBest(t *testing.T) {
	five := []int{0, 4, 0, 2, 0, 2, 0, 9}
	if d, e := Best(api.Key{N: 5}, tick.New(five)); e != api.OK || !desc.Same(d, of(api.Small, 5)) {
		t.Error("the chapter's example", d, e)
	}
	for _, n := range []int{1, 2, 6, 8, 17, 60, 257, 2048, 65537, api.MaxN} {
		l, _ := cand.List(n)
		for want := range l {
			var ticks []int
			for i := range l {
				if i == want {
					ticks = append(ticks, 1, 2)
				} else {
					ticks = append(ticks, 1, 3)
				}
			}
			c := tick.New(ticks)
			k := api.Key{N: n, Dir: want % 2}
			if d, e := Best(k, c); e != api.OK || !desc.Same(d, l[want]) || valid.For(k, d) != api.OK || c.Asked() != 2*len(l) {
				t.Error("Best", n, want, d, e)
			}
		}
		least, _ := cost.Least(l)
		if d, e := Best(api.Key{N: n}, nil); e != api.OK || !desc.Same(d, l[least]) {
			t.Error("without a clock", n, d, e)
		}
	}
	for _, n := range root.Sizes(80) {
		if d, e := Best(api.Key{N: n, Dir: 1}, tick.New(nil)); e != api.OK || valid.For(api.Key{N: n}, d) != api.OK {
			t.Error(n, d, e)
		}
	}
	c := tick.New(nil)
	for _, x := range []struct {
		k api.Key
		e api.Errno
	}{{api.Key{N: 7, Dir: 5}, api.ErrSize}, {api.Key{}, api.ErrSize}, {api.Key{N: -8}, api.ErrSize}, {api.Key{N: 8, Dir: 2}, api.ErrArg}, {api.Key{N: 8, Dir: -1}, api.ErrArg}} {
		if d, e := Best(x.k, c); e != x.e || !desc.Same(d, api.Desc{}) || c.Asked() != 0 {
			t.Error(x, d, e)
		}
	}
}
