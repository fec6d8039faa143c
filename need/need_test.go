package need

import (
	"math"
	"slices"
	"testing"

	"dulcimer/api"
	"dulcimer/desc"
)

func of(kind, n int, kids ...api.Desc) api.Desc { return api.Desc{Kind: kind, N: n, Kids: kids} }

func name(kind, n, m, dir int) api.Name { return api.Name{Kind: kind, N: n, M: m, Dir: dir} }

// P15.1
func TestRight(t *testing.T) {
	for _, c := range []struct {
		t    api.Name
		room int
	}{
		{name(1, 1, 0, 0), 1}, {name(1, 8, 0, 1), 8}, {name(1, api.MaxN, 0, 1), api.MaxN}, {name(2, 6, 0, 0), 6}, {name(2, 1, 0, 1), 1},
		{name(3, 3, 0, 0), 2}, {name(3, 17, 0, 1), 16}, {name(3, 65537, 0, 1), 65536}, {name(4, 2, 4, 0), 4}, {name(4, 3, 8, 1), 8}, {name(4, 3, api.MaxN, 1), api.MaxN}, {name(4, 1<<23, api.MaxN, 0), api.MaxN},
	} {
		if !Right(c.t) || Room(c.t) != c.room {
			t.Error("right", c, Room(c.t))
		}
	}
	for _, n := range []api.Name{
		{}, name(0, 8, 0, 0), name(5, 8, 0, 0), name(-1, 8, 0, 0), name(1, 7, 0, 0), name(1, 0, 0, 0), name(1, 8, 0, 2), name(1, 8, 0, -1), name(1, 8, 1, 0), name(2, 8, 16, 0), name(2, -8, 0, 0),
		name(3, 2, 0, 0), name(3, 4, 0, 0), name(3, 7, 0, 0), name(3, 17, 16, 0), name(3, 17, 0, 3), name(4, 1, 1, 0), name(4, 1, 2, 0), name(4, 3, 4, 0), name(4, 3, 6, 0), name(4, 3, 0, 0), name(4, 3, -8, 0), name(4, 3, 2*api.MaxN, 0), name(4, 3, 8, -1), name(4, 3, math.MinInt, 0), name(1, math.MinInt, 0, 0), name(1, math.MaxInt, 0, 0), name(4, api.MaxN, api.MaxN, 0),
	} {
		if Right(n) || Room(n) != 0 {
			t.Error("wrong", n)
		}
	}
}

// P15.1
func TestCmp(t *testing.T) {
	l := []api.Name{name(math.MinInt, 9, 9, 9), name(0, 0, 0, 0), name(1, -5, 7, 7), name(1, 2, 0, 5), name(1, 2, 1, 0), name(1, 2, 1, 1), name(1, 3, 0, 0), name(2, 0, 0, 0), name(math.MaxInt, 0, 0, 0)}
	for i, a := range l {
		for j, b := range l {
			want := 0
			if i < j {
				want = -1
			} else if i > j {
				want = 1
			}
			if Cmp(a, b) != want {
				t.Error(a, b, Cmp(a, b))
			}
		}
	}
}

// P15.2, P15.3
func TestTables(t *testing.T) {
	powers := func(n, dir int) api.Name { return name(api.TabPowers, n, 0, dir) }
	deep := of(api.Split, 102,
		of(api.Blue, 2, of(api.Stock, 4)),
		of(api.Good, 51, of(api.Small, 3), of(api.Rader, 17, of(api.Split, 16, of(api.Stock, 4), of(api.Naive, 4)))))
	for _, c := range []struct {
		d    api.Desc
		dir  int
		want []api.Name
	}{
		{of(api.Rader, 5, of(api.Stock, 4)), 1, []api.Name{name(api.TabRader, 5, 0, 1), powers(4, 0)}},
		{of(api.Naive, 6), 1, []api.Name{powers(6, 1)}},
		{of(api.Small, 5), 1, nil},
		{of(api.Good, 6, of(api.Small, 2), of(api.Small, 3)), 0, nil},
		{of(api.Split, 16, of(api.Stock, 4), of(api.Naive, 4)), 1, []api.Name{powers(16, 1), powers(4, 1)}},
		{of(api.Blue, 3, of(api.Stock, 8)), 1, []api.Name{name(api.TabChirp, 3, 0, 1), name(api.TabBlue, 3, 8, 1), powers(8, 0)}},
		{deep, 1, []api.Name{powers(102, 1), name(api.TabChirp, 2, 0, 1), name(api.TabBlue, 2, 4, 1), powers(4, 0), name(api.TabRader, 17, 0, 1), powers(16, 0)}},
		{of(api.Split, 16, of(api.Stock, 4), of(api.Blue, 4, of(api.Stock, 8))), 1, []api.Name{powers(16, 1), powers(4, 1), name(api.TabChirp, 4, 0, 1), name(api.TabBlue, 4, 8, 1), powers(8, 0)}},
	} {
		l, e := Tables(c.d, c.dir)
		if e != api.OK || !slices.Equal(l, c.want) {
			t.Error(c.d, c.dir, l, e)
		}
	}
	if Times(deep, 1, powers(4, 0)) != 3 || Times(deep, 1, powers(16, 0)) != 1 || Times(deep, 1, powers(4, 1)) != 0 || Times(deep, 0, powers(4, 0)) != 3 {
		t.Error("Times")
	}
	if Times(of(api.Split, 4, of(api.Naive, 2), of(api.Naive, 2)), 1, powers(2, 1)) != 2 {
		t.Error("Times of both Kids")
	}
}

func TestWrong(t *testing.T) {
	for _, c := range []struct {
		d   api.Desc
		dir int
		e   api.Errno
	}{{api.Desc{}, 2, api.ErrArg}, {of(api.Naive, 4), -1, api.ErrArg}, {of(api.Naive, 7), 0, api.ErrDesc}, {api.Desc{Kids: make([]api.Desc, 60)}, 1, api.ErrBig}, {of(api.Split, 4, of(api.Naive, 4)), 0, api.ErrDesc}, {of(api.Blue, 4), 0, api.ErrDesc}} {
		if l, e := Tables(c.d, c.dir); e != c.e || len(l) != 0 || Times(c.d, c.dir, name(1, 4, 0, 0)) != 0 || Times(c.d, c.dir, name(1, 7, 0, 0)) != 0 {
			t.Error(c, l, e)
		}
	}
}

// P15.4
func TestLaws(t *testing.T) {
	d := of(api.Split, 102, of(api.Blue, 2, of(api.Stock, 4)), of(api.Good, 51, of(api.Naive, 3), of(api.Rader, 17, of(api.Blue, 16, of(api.Stock, 32)))))
	there, _ := Tables(d, 0)
	back, _ := Tables(d, 1)
	if len(there) > len(back) {
		t.Error("the direction 0 needs more")
	}
	for _, n := range append(there, back...) {
		if !Right(n) {
			t.Error(n)
		}
	}
	for x := range desc.All(d) {
		l, e := Tables(x, 0)
		if e != api.OK {
			t.Error(x, e)
		}
		for _, n := range l {
			if !slices.Contains(there, n) {
				t.Error("below", x, n)
			}
		}
	}
}
