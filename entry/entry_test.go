package entry

import (
	"math"
	"strings"
	"testing"

	"dulcimer/api"
	"dulcimer/desc"
)

func of(n, dir, kind int, kids ...api.Desc) api.Entry {
	return api.Entry{Key: api.Key{N: n, Dir: dir}, Desc: api.Desc{Kind: kind, N: n, Kids: kids}}
}

func leaf(kind, n int) api.Desc { return api.Desc{Kind: kind, N: n} }

func some() map[string]api.Entry {
	return map[string]api.Entry{
		"8 0 stock8": of(8, 0, api.Stock), "8 1 naive8": of(8, 1, api.Naive), "6 1 split6(small2,naive3)": of(6, 1, api.Split, leaf(api.Small, 2), leaf(api.Naive, 3)),
		"16777216 0 stock16777216": of(api.MaxN, 0, api.Stock), "17 0 rader17(stock16)": of(17, 0, api.Rader, leaf(api.Stock, 16)), "1 0 naive1": of(1, 0, api.Naive),
	}
}

// P24.1
func TestCheckCmpSame(t *testing.T) {
	for _, x := range some() {
		if Check(x) != api.OK || !Same(x, x) {
			t.Error(x)
		}
	}
	for _, c := range []struct {
		x api.Entry
		e api.Errno
	}{
		{api.Entry{}, api.ErrSize}, {of(7, 2, api.Naive), api.ErrSize}, {of(8, 2, api.Naive), api.ErrArg}, {of(8, 0, api.Small), api.ErrDesc}, {api.Entry{Key: api.Key{N: 8}, Desc: leaf(api.Stock, 4)}, api.ErrDesc}, {api.Entry{Key: api.Key{N: 8}, Desc: api.Desc{Kids: make([]api.Desc, 60)}}, api.ErrBig},
	} {
		s, e := Print(c.x)
		if Check(c.x) != c.e || s != "" || e != c.e {
			t.Error(c, Check(c.x), s, e)
		}
	}
	keys := []api.Key{{N: math.MinInt, Dir: 9}, {N: -1}, {N: 0, Dir: math.MinInt}, {N: 0}, {N: 0, Dir: 1}, {N: 2}, {N: math.MaxInt, Dir: math.MaxInt}}
	for i, a := range keys {
		for j, b := range keys {
			want := 0
			if i < j {
				want = -1
			} else if i > j {
				want = 1
			}
			if Cmp(a, b) != want {
				t.Error("Cmp", a, b)
			}
		}
	}
	if Same(of(8, 0, api.Stock), of(8, 1, api.Stock)) || Same(of(8, 0, api.Stock), of(8, 0, api.Naive)) || Same(of(8, 0, api.Stock), of(16, 0, api.Stock)) {
		t.Error("Same")
	}
}

// P24.2, P24.3, P24.4
func TestLine(t *testing.T) {
	for line, x := range some() {
		if s, e := Print(x); s != line || e != api.OK {
			t.Error("Print", x, s, e)
		}
		if got, e := Parse(line); !Same(got, x) || e != api.OK {
			t.Error("Parse", line, got, e)
		}
	}
	long := strings.Repeat("x", 4097)
	for line, want := range map[string]api.Errno{
		"": api.ErrSyntax, "8 0": api.ErrSyntax, "8 0 stock8 x": api.ErrSyntax, "8  0 stock8": api.ErrSyntax, " 8 0 stock8": api.ErrSyntax, "8 0 stock8 ": api.ErrSyntax, "8 0 stock8\n": api.ErrSyntax, "8\t0 stock8": api.ErrSyntax,
		"x 0 stock8": api.ErrSyntax, "08 0 stock8": api.ErrSyntax, "8 00 stock8": api.ErrSyntax, "8 -1 stock8": api.ErrSyntax, "8 0 stock": api.ErrSyntax, "8 0 stock08": api.ErrSyntax,
		"7 0 stock8": api.ErrSize, "7 3 fast": api.ErrSyntax, "0 0 naive1": api.ErrSize, "8 2 stock8": api.ErrArg, "8 0 stock4": api.ErrDesc, "8 0 small8": api.ErrDesc, "7 9 " + long: api.ErrBig, "x 9 " + long: api.ErrSyntax, "7 x " + long: api.ErrSyntax,
		"8 0 " + strings.Repeat("naive1(", 12) + "naive1" + strings.Repeat(")", 12): api.ErrBig, "999999999 0 naive999999999": api.ErrSize,
	} {
		if x, e := Parse(line); e != want || !Same(x, api.Entry{}) {
			t.Error(line, x, e)
		}
	}
}

// P24.1
func TestSort(t *testing.T) {
	l := []api.Entry{of(8, 1, 1), of(8, 0, 3), of(2, 1, 1), of(8, 1, 3), of(-4, 0, 9), of(8, 0, 1), of(2, 0, 4, leaf(1, 1)), of(8, 1, 2)}
	var want []api.Entry
	for _, i := range []int{4, 6, 2, 1, 5, 0, 3, 7} {
		want = append(want, l[i])
	}
	got := Sort(l)
	if len(got) != len(want) {
		t.Fatal(got)
	}
	for i := range got {
		if !Same(got[i], want[i]) {
			t.Error(i, got[i])
		}
	}
	got[1].Desc.Kids[0].N = 50
	if !Same(l[0], of(8, 1, 1)) || !desc.Same(l[6].Desc.Kids[0], leaf(1, 1)) || len(Sort(nil)) != 0 {
		t.Error("shared, or changed")
	}
}
