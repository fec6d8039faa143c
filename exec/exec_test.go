package exec

import (
	"slices"
	"testing"

	"dulcimer/api"
	"dulcimer/chance"
	"dulcimer/desc"
	"dulcimer/dft"
	"dulcimer/need"
	"dulcimer/table"
	"dulcimer/vec"
)

func of(kind, n int, kids ...api.Desc) api.Desc { return api.Desc{Kind: kind, N: n, Kids: kids} }

func plans() []api.Desc {
	s := func(n int) api.Desc { return of(api.Small, n) }
	v := func(n int) api.Desc { return of(api.Naive, n) }
	k := func(n int) api.Desc { return of(api.Stock, n) }
	l := []api.Desc{
		of(api.Split, 6, s(2), v(3)), of(api.Split, 6, v(3), s(2)), of(api.Good, 6, s(2), s(3)), of(api.Good, 6, s(3), k(2)), of(api.Split, 64, k(16), s(4)), of(api.Split, 15, s(5), v(3)), of(api.Good, 15, s(5), v(3)),
		of(api.Rader, 3, k(2)), of(api.Rader, 3, s(2)), of(api.Rader, 5, s(4)), of(api.Rader, 17, k(16)), of(api.Rader, 257, k(256)), of(api.Rader, 17, of(api.Split, 16, s(4), of(api.Split, 4, s(2), v(2)))),
		of(api.Blue, 2, s(4)), of(api.Blue, 3, k(8)), of(api.Blue, 3, k(32)), of(api.Blue, 17, k(64)), of(api.Blue, 96, k(256)), of(api.Blue, 8, v(16)), of(api.Blue, 5, of(api.Split, 16, s(4), s(4))), of(api.Blue, 3, of(api.Blue, 8, k(16))),
		of(api.Split, 102, of(api.Blue, 2, s(4)), of(api.Good, 51, v(3), of(api.Rader, 17, of(api.Blue, 16, k(32))))),
		of(api.Good, 255, of(api.Good, 15, s(3), s(5)), of(api.Rader, 17, k(16))), of(api.Split, 771, s(3), of(api.Rader, 257, k(256))),
	}
	for _, n := range []int{1, 2, 3, 4, 5, 6, 12, 17, 51, 60, 64} {
		l = append(l, v(n))
	}
	for n := 2; n <= 512; n *= 2 {
		l = append(l, k(n))
	}
	return append(l, s(2), s(3), s(4), s(5))
}

// P17.1, P17.2, P17.3
func TestTransform(t *testing.T) {
	if y, e := Do(of(api.Small, 2), 0, []uint64{1, 2}); e != api.OK || !slices.Equal(y, []uint64{3, api.P - 1}) {
		t.Error("the chapter's example", y, e)
	}
	for _, d := range plans() {
		for dir := range 2 {
			x := chance.Row(d.N, 3)
			keepX, keepD := slices.Clone(x), desc.Clone(d)
			want, _ := dft.Dft(x, dir)
			if y, e := Do(d, dir, x); e != api.OK || !slices.Equal(y, want) {
				t.Error("Do", d, dir, e)
			}
			names, _ := need.Tables(d, dir)
			rows := map[api.Name][]uint64{}
			for _, n := range names {
				rows[n], _ = table.Make(n)
			}
			pauses := 0
			y, e := Run(d, dir, x, func(n api.Name) []uint64 {
				if !slices.Contains(names, n) {
					t.Error("asked for", n)
				}
				return rows[n]
			}, func() { pauses++ })
			if e != api.OK || !slices.Equal(y, want) || pauses < 1 || pauses > 4 {
				t.Error("Run", d, dir, e, pauses)
			}
			for _, n := range names {
				if l, _ := table.Make(n); !slices.Equal(l, rows[n]) {
					t.Error("written into", n)
				}
			}
			if !slices.Equal(x, keepX) || !desc.Same(d, keepD) {
				t.Error("changed", d)
			}
		}
	}
}

// P17.1: another's numbers may change while it pauses.
func TestPause(t *testing.T) {
	for _, d := range []api.Desc{of(api.Small, 2), of(api.Stock, 8), of(api.Naive, 6)} {
		x := chance.Row(d.N, 4)
		want, _ := dft.Dft(x, 0)
		y, e := Run(d, 0, x, func(n api.Name) []uint64 {
			l, _ := table.Make(n)
			return l
		}, func() { clear(x) })
		if e != api.OK || !slices.Equal(y, want) {
			t.Error(d, e)
		}
	}
}

// P17.1
func TestOtherTables(t *testing.T) {
	for _, d := range plans() {
		y, e := Run(d, 1, chance.Row(d.N, 5), func(n api.Name) []uint64 { return chance.Row(need.Room(n), 6) }, nil)
		if e != api.OK || len(y) != d.N || !slices.Equal(y, vec.Red(y)) {
			t.Error(d, e)
		}
		names, _ := need.Tables(d, 1)
		for _, bad := range names {
			for _, by := range []int{-1, 1} {
				y, e := Run(d, 1, chance.Row(d.N, 5), func(n api.Name) []uint64 {
					if n == bad {
						return make([]uint64, need.Room(n)+by)
					}
					return make([]uint64, need.Room(n))
				}, nil)
				if e != api.ErrNone || len(y) != 0 {
					t.Error("ErrNone", d, bad, e)
				}
			}
		}
	}
}

// P17.1, P17.2
func TestWrong(t *testing.T) {
	look := func(n api.Name) []uint64 { return nil }
	for _, c := range []struct {
		d    api.Desc
		dir  int
		n    int
		look Look
		e    api.Errno
	}{
		{api.Desc{}, 2, 0, nil, api.ErrArg}, {of(api.Stock, 8), -1, 8, look, api.ErrArg}, {api.Desc{}, 0, 0, nil, api.ErrDesc}, {api.Desc{Kids: make([]api.Desc, 60)}, 0, 0, nil, api.ErrBig},
		{of(api.Stock, 8), 1, 7, nil, api.ErrLen}, {of(api.Stock, 8), 1, 0, look, api.ErrLen}, {of(api.Stock, 8), 1, 8, nil, api.ErrNil}, {of(api.Small, 2), 1, 2, nil, api.ErrNil}, {of(api.Stock, 8), 1, 8, look, api.ErrNone}, {of(api.Small, 2), 1, 2, look, api.OK},
	} {
		y, e := Run(c.d, c.dir, make([]uint64, c.n), c.look, nil)
		if e != c.e || e != api.OK && len(y) != 0 {
			t.Error("Run", c, e)
		}
		if c.e == api.ErrNil || c.e == api.ErrNone {
			continue
		}
		if y, e := Do(c.d, c.dir, make([]uint64, c.n)); e != c.e || e != api.OK && len(y) != 0 {
			t.Error("Do", c, e)
		}
	}
}
