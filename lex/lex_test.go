package lex

import (
	"math"
	"slices"
	"strings"
	"testing"

	"dulcimer/api"
)

// P22.1
func TestLine(t *testing.T) {
	for _, c := range []struct {
		s    string
		at   int
		line string
		next int
		ok   bool
	}{
		{"ab\ncd\n", 0, "ab", 3, true}, {"ab\ncd\n", 1, "b", 3, true}, {"ab\ncd\n", 2, "", 3, true}, {"ab\ncd\n", 3, "cd", 6, true}, {"ab\ncd\n", 6, "", 0, false}, {"ab\ncd\n", 7, "", 0, false}, {"ab\n", -1, "", 0, false},
		{"ab", 0, "", 0, false}, {"", 0, "", 0, false}, {"\n", 0, "", 1, true}, {"a\x00\xff\r\nb", 0, "a\x00\xff\r", 5, true}, {"a\n", math.MaxInt, "", 0, false}, {"a\n", math.MinInt, "", 0, false},
	} {
		if line, next, ok := Line(c.s, c.at); line != c.line || next != c.next || ok != c.ok {
			t.Error(c, line, next, ok)
		}
	}
}

// P22.1, P22.4
func TestWords(t *testing.T) {
	if l, e := Words("8 0 stock8"); e != api.OK || !slices.Equal(l, []string{"8", "0", "stock8"}) {
		t.Error("the chapter's example", l, e)
	}
	for _, s := range []string{"", "a", "a b", "~ ! (x,y) 0"} {
		if l, e := Words(s); e != api.OK || strings.Join(l, " ") != s || s == "" && len(l) != 0 {
			t.Error(s, l, e)
		}
	}
	for _, s := range []string{" ", "a ", " a", "a  b", "a\tb", "a\x7f", "a\x1f", "\u00e4", "a\n", "a\xff", "a\x00b"} {
		if l, e := Words(s); e != api.ErrSyntax || len(l) != 0 {
			t.Error(s, l, e)
		}
	}
}

// P22.2, P22.4
func TestNum(t *testing.T) {
	for s, want := range map[string]int{"0": 0, "7": 7, "10": 10, "999999999": 999999999, "123456789": 123456789} {
		if n, e := Num(s); n != want || e != api.OK {
			t.Error(s, n, e)
		}
		if text, e := Digits(want); text != s || e != api.OK {
			t.Error(want, text, e)
		}
	}
	for _, s := range []string{"", "00", "01", "-1", "+1", "1000000000", "1a", "a", " 1", "1 ", "0x1", "1_0", "\u0661", "1.0"} {
		if n, e := Num(s); n != 0 || e != api.ErrSyntax {
			t.Error(s, n, e)
		}
	}
	for _, n := range []int{-1, 1000000000, math.MaxInt, math.MinInt} {
		if s, e := Digits(n); s != "" || e != api.ErrRange {
			t.Error(n, s, e)
		}
	}
	for n := range 3000 {
		s, _ := Digits(n)
		if m, e := Num(s); m != n || e != api.OK {
			t.Error(n, s, m, e)
		}
	}
}

// P22.3, P22.4
func TestTokens(t *testing.T) {
	if l, e := Tokens("split6(small2"); e != api.OK || len(l) != 5 {
		t.Error("the chapter's example", l, e)
	}
	l, e := Tokens("ab12c((,)0099z")
	want := []Tok{{1, "ab", 0}, {2, "12", 2}, {1, "c", 4}, {3, "(", 5}, {3, "(", 6}, {3, ",", 7}, {3, ")", 8}, {2, "0099", 9}, {1, "z", 13}}
	if e != api.OK || !slices.Equal(l, want) {
		t.Error(l, e)
	}
	if l, e := Tokens(""); e != api.OK || len(l) != 0 {
		t.Error(l, e)
	}
	for _, s := range []string{"a b", "A", "a\x00", "a\n", "1.5", "-1", "\u00e4", "\xff", "a[", "{", "/", ":", "`"} {
		if l, e := Tokens(s); e != api.ErrSyntax || len(l) != 0 {
			t.Error(s, l, e)
		}
	}
	for _, s := range []string{"a", "z0", "0z", ")(", ",,", "split6(small2,naive3)"} {
		l, e := Tokens(s)
		all := ""
		for _, x := range l {
			if x.At != len(all) {
				t.Error(s, x)
			}
			all += x.Text
		}
		if e != api.OK || all != s {
			t.Error(s, all, e)
		}
	}
}
