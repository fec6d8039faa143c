package valid

import (
	"math"
	"slices"
	"testing"

	"dulcimer/api"
	"dulcimer/desc"
)

func of(kind, n int, kids ...api.Desc) api.Desc { return api.Desc{Kind: kind, N: n, Kids: kids} }

func any(n int) api.Desc { return of(99, n) }

// P14.1
func TestNode(t *testing.T) {
	right := []api.Desc{
		of(api.Naive, 1), of(api.Naive, 2), of(api.Naive, 64), of(api.Naive, 51), of(api.Naive, 60),
		of(api.Small, 2), of(api.Small, 3), of(api.Small, 4), of(api.Small, 5),
		of(api.Stock, 2), of(api.Stock, 4), of(api.Stock, api.MaxN),
		of(api.Split, 4, any(2), any(2)), of(api.Split, 6, any(2), any(3)), of(api.Split, api.MaxN, any(4096), any(4096)),
		of(api.Good, 6, any(2), any(3)), of(api.Good, 6, any(3), any(2)), of(api.Good, 60, any(4), any(15)),
		of(api.Rader, 3, any(2)), of(api.Rader, 17, any(16)), of(api.Rader, 65537, any(65536)),
		of(api.Blue, 2, any(4)), of(api.Blue, 3, any(8)), of(api.Blue, 3, any(api.MaxN)), of(api.Blue, 8, any(16)), of(api.Blue, 1<<23, any(api.MaxN)),
	}
	for _, d := range right {
		if !Node(d) {
			t.Error("right, but refused", d)
		}
	}
	wrong := []api.Desc{
		{}, of(8, 4), of(-1, 4), of(0, 1), of(99, 2), of(math.MinInt, 2),
		of(api.Naive, 0), of(api.Naive, -1), of(api.Naive, 65), of(api.Naive, 128), of(api.Naive, 7), of(api.Naive, 2, any(2)), of(api.Naive, 68), of(api.Naive, math.MinInt),
		of(api.Small, 1), of(api.Small, 6), of(api.Small, 2, any(1)), of(api.Small, -2),
		of(api.Stock, 1), of(api.Stock, 3), of(api.Stock, 2*api.MaxN), of(api.Stock, 4, any(2)), of(api.Stock, 0), of(api.Stock, math.MinInt),
		of(api.Split, 6), of(api.Split, 6, any(6)), of(api.Split, 6, any(2), any(3), any(1)), of(api.Split, 6, any(1), any(6)), of(api.Split, 6, any(6), any(1)), of(api.Split, 6, any(-2), any(-3)),
		of(api.Split, 14, any(2), any(7)), of(api.Split, 6, any(2), any(2)), of(api.Split, 0, any(1<<32), any(1<<32)), of(api.Split, 4, any(1<<62+2), any(2)), of(api.Split, 2*api.MaxN, any(2), any(api.MaxN)), of(api.Split, 6, any(0), any(3)),
		of(api.Good, 4, any(2), any(2)), of(api.Good, 24, any(4), any(6)), of(api.Good, 6, any(2)), of(api.Good, 6), of(api.Good, 6, any(1), any(6)), of(api.Good, 14, any(2), any(7)), of(api.Good, 12, any(3), any(5)),
		of(api.Rader, 2, any(1)), of(api.Rader, 7, any(6)), of(api.Rader, 17), of(api.Rader, 17, any(16), any(16)), of(api.Rader, 17, any(8)), of(api.Rader, 15, any(14)), of(api.Rader, math.MinInt, any(math.MaxInt)),
		of(api.Blue, 1, any(2)), of(api.Blue, 3, any(4)), of(api.Blue, 3, any(6)), of(api.Blue, 3), of(api.Blue, 3, any(8), any(8)), of(api.Blue, 3, any(2*api.MaxN)), of(api.Blue, 7, any(16)), of(api.Blue, api.MaxN, any(api.MaxN)), of(api.Blue, 1, any(1)),
	}
	for _, d := range wrong {
		if Node(d) {
			t.Error("wrong, but let be", d)
		}
	}
}

func chain(depth int) api.Desc {
	d := of(api.Small, 2)
	for range depth - 1 {
		d = of(api.Split, d.N*2, of(api.Small, 2), d)
	}
	return d
}

// tower has the depth, and 2 to it, less 1, nodes.
func tower(depth int) api.Desc {
	d := of(api.Small, 2)
	for range depth - 1 {
		d = of(api.Split, d.N*d.N, d, d)
	}
	return d
}

// P14.2
func TestCheck(t *testing.T) {
	for _, c := range []struct {
		d api.Desc
		e api.Errno
	}{
		{of(api.Rader, 17, of(api.Stock, 16)), api.OK},
		{of(api.Good, 4, of(api.Small, 2), of(api.Small, 2)), api.ErrDesc},
		{of(api.Split, 6, of(api.Small, 2), of(api.Small, 3)), api.OK},
		{of(api.Split, 6, of(api.Small, 2), of(api.Stock, 3)), api.ErrDesc},
		{chain(12), api.OK}, {chain(13), api.ErrBig},
		{tower(5), api.OK}, {tower(4), api.OK},
		{api.Desc{}, api.ErrDesc},
		{api.Desc{Kids: make([]api.Desc, 59)}, api.ErrDesc}, {api.Desc{Kids: make([]api.Desc, 60)}, api.ErrBig},
	} {
		if e := Check(c.d); e != c.e {
			t.Error(c.d, e)
		}
	}
	// 59 nodes of right ones, and 61.
	d := of(api.Split, 1<<23, chain(12), chain(11))
	if n := desc.Nodes(d); n != 45 {
		t.Error(n)
	}
	if e := Check(d); e != api.ErrBig {
		t.Error("too deep", e)
	}
	d = of(api.Split, 1<<22, chain(11), chain(11))
	if e := Check(d); e != api.OK || desc.Nodes(d) != 43 || desc.Depth(d) != 12 {
		t.Error(e, desc.Nodes(d))
	}
	d = of(api.Split, 1<<21, of(api.Split, 1<<11, of(api.Small, 2), chain(10)), of(api.Split, 1<<10, chain(9), of(api.Small, 2)))
	if e := Check(d); e != api.OK {
		t.Error(e)
	}
}

// P14.2
func TestWrong(t *testing.T) {
	good := of(api.Split, 60, of(api.Split, 6, of(api.Small, 2), of(api.Small, 3)), of(api.Split, 10, of(api.Small, 2), of(api.Small, 5)))
	if path, wrong := Wrong(good); wrong || len(path) != 0 {
		t.Error(path, wrong)
	}
	for _, path := range [][]int{{}, {0}, {1}, {0, 1}, {1, 0}, {1, 1}} {
		old, _ := desc.At(good, path)
		bad, _ := desc.Put(good, path, of(99, old.N))
		if got, wrong := Wrong(bad); !wrong || !slices.Equal(got, path) {
			t.Error(path, got, wrong)
		}
		two, _ := desc.Put(bad, []int{1, 1}, of(99, 5))
		if len(path) > 0 && path[0] == 0 {
			if got, _ := Wrong(two); !slices.Equal(got, path) {
				t.Error("the first one", path, got)
			}
		}
	}
	if path, wrong := Wrong(chain(20)); wrong || len(path) != 0 {
		t.Error("deep")
	}
	if path, wrong := Wrong(of(api.Split, 8, chain(30), chain(2))); !wrong || len(path) != 0 {
		t.Error(path)
	}
}

// P14.3
func TestFor(t *testing.T) {
	two, big := of(api.Small, 2), chain(13)
	for _, c := range []struct {
		k api.Key
		d api.Desc
		e api.Errno
	}{
		{api.Key{N: 2}, two, api.OK}, {api.Key{N: 2, Dir: 1}, two, api.OK}, {api.Key{N: 2, Dir: 2}, big, api.ErrArg}, {api.Key{N: 2, Dir: -1}, two, api.ErrArg},
		{api.Key{N: 7, Dir: 2}, two, api.ErrSize}, {api.Key{N: 0}, api.Desc{}, api.ErrSize}, {api.Key{N: 4}, two, api.ErrDesc}, {api.Key{N: 4}, big, api.ErrBig}, {api.Key{N: 2}, of(api.Small, 9), api.ErrDesc},
	} {
		if e := For(c.k, c.d); e != c.e {
			t.Error(c, e)
		}
	}
}

// P14.4
func TestBelow(t *testing.T) {
	plan := of(api.Split, 51, of(api.Rader, 17, of(api.Stock, 16)), of(api.Blue, 3, of(api.Stock, 8)))
	for d := range desc.All(plan) {
		if Check(d) != api.OK {
			t.Error(d)
		}
	}
	other, _ := desc.Put(plan, []int{0, 0}, of(api.Split, 16, of(api.Small, 4), of(api.Naive, 4)))
	if Check(other) != api.OK {
		t.Error(other)
	}
}
