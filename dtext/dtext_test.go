package dtext

import (
	"math"
	"strings"
	"testing"

	"dulcimer/api"
	"dulcimer/desc"
)

func of(kind, n int, kids ...api.Desc) api.Desc { return api.Desc{Kind: kind, N: n, Kids: kids} }

func chain(depth int) api.Desc {
	d := of(1, 1)
	for range depth - 1 {
		d = of(1, 1, d)
	}
	return d
}

// P23.1, P23.2, P23.4
func TestPrint(t *testing.T) {
	for text, d := range map[string]api.Desc{
		"split6(small2,naive3)": of(api.Split, 6, of(api.Small, 2), of(api.Naive, 3)),
		"naive0":                of(1, 0), "small999999999": of(2, 999999999), "stock8": of(3, 8), "good15(small3,small5)": of(5, 15, of(2, 3), of(2, 5)),
		"rader17(stock16)": of(6, 17, of(3, 16)), "blue3(stock8)": of(7, 3, of(3, 8)),
		"naive1(naive1,naive1(blue2),naive1)": of(1, 1, of(1, 1), of(1, 1, of(7, 2)), of(1, 1)),
	} {
		if got, e := Print(d); got != text || e != api.OK {
			t.Error("Print", d, got, e)
		}
		if got, e := Parse(text); !desc.Same(got, d) || e != api.OK {
			t.Error("Parse", text, got, e)
		}
	}
	wide := api.Desc{Kind: 1, N: 1, Kids: make([]api.Desc, 59)}
	for _, c := range []struct {
		d api.Desc
		e api.Errno
	}{
		{api.Desc{}, api.ErrDesc}, {of(8, 1), api.ErrDesc}, {of(-1, 1), api.ErrDesc}, {of(math.MaxInt, 1), api.ErrDesc}, {of(1, -1), api.ErrDesc}, {of(1, 1000000000), api.ErrDesc}, {of(1, math.MinInt), api.ErrDesc},
		{of(1, 1, of(1, 1), of(0, 1)), api.ErrDesc}, {wide, api.ErrDesc}, {api.Desc{Kids: make([]api.Desc, 60)}, api.ErrBig}, {chain(12), api.OK}, {chain(13), api.ErrBig}, {of(0, -1, chain(12)), api.ErrBig},
	} {
		if s, e := Print(c.d); e != c.e || e != api.OK && s != "" {
			t.Error(c, s, e)
		}
	}
}

// P23.3
func TestParse(t *testing.T) {
	for _, s := range []string{
		"", "naive", "8", "naive 8", "naive8 ", " naive8", "Naive8", "naive08", "naive00", "naive1000000000", "naive8()", "naive8(", "naive8)", "naive8(small2", "naive8(small2,", "naive8(small2,)", "naive8(,small2)", "naive8(small2)(small2)", "naive8,naive8", "naive8naive8",
		"8naive", "fast8", "naives8", "naiv8", "naive-8", "(naive8)", "naive8(small2))", "naive8(small2;small2)", "naive8\n", "naive8(small2,,small2)", "naive(small2)", "naive8((small2))", "naive\xff8",
	} {
		if d, e := Parse(s); e != api.ErrSyntax || !desc.Same(d, api.Desc{}) {
			t.Error(s, d, e)
		}
	}
	text := func(n int) string { return strings.Repeat("naive1(", n-1) + "naive1" + strings.Repeat(")", n-1) }
	row := func(n int) string { return "naive1(" + strings.Repeat("naive1,", n-2) + "naive1)" }
	for s, want := range map[string]api.Errno{
		text(12): api.OK, text(13): api.ErrBig, text(500): api.ErrBig, text(500) + ")": api.ErrSyntax, row(60): api.OK, row(61): api.ErrBig, row(580): api.ErrBig,
		strings.Repeat("x", 4097): api.ErrBig, strings.Repeat("x", 4096): api.ErrSyntax, strings.Repeat(" ", 5000): api.ErrBig,
	} {
		if d, e := Parse(s); e != want || e != api.OK && !desc.Same(d, api.Desc{}) {
			t.Error(len(s), e)
		} else if e == api.OK {
			if back, _ := Print(d); back != s {
				t.Error("back", s, back)
			}
		}
	}
}
