package wisdom

import (
	"slices"
	"strings"
	"testing"

	"dulcimer/api"
	"dulcimer/cand"
	"dulcimer/entry"
	"dulcimer/root"
)

func of(n, dir, kind int) api.Entry {
	return api.Entry{Key: api.Key{N: n, Dir: dir}, Desc: api.Desc{Kind: kind, N: n}}
}

func same(l, m []api.Entry) bool { return slices.EqualFunc(l, m, entry.Same) }

// many tells so many entries with plans of some length.
func many(n int) []api.Entry {
	var l []api.Entry
	for _, size := range root.Sizes(api.MaxN) {
		for dir := range 2 {
			if d, _ := cand.Plain(size); len(l) < n {
				l = append(l, api.Entry{Key: api.Key{N: size, Dir: dir}, Desc: d})
			}
		}
	}
	return l
}

// P25.1, P25.2, P25.4
func TestPrint(t *testing.T) {
	if Head() != "dulcimer 1" {
		t.Error(Head())
	}
	if s, e := Print([]api.Entry{of(8, 0, api.Stock)}); s != "dulcimer 1\n8 0 stock8\n" || e != api.OK {
		t.Error("the chapter's example", s, e)
	}
	if s, e := Print(nil); s != "dulcimer 1\n" || e != api.OK {
		t.Error(s, e)
	}
	l := []api.Entry{of(8, 1, api.Stock), of(2, 0, api.Small), of(8, 0, api.Naive)}
	want := "dulcimer 1\n2 0 small2\n8 0 naive8\n8 1 stock8\n"
	s, e := Print(l)
	if s != want || e != api.OK || l[0].Key.Dir != 1 {
		t.Error(s, e)
	}
	if got, line, e := Parse(s); !same(got, entry.Sort(l)) || line != 0 || e != api.OK {
		t.Error(got, line, e)
	}
	big := api.Entry{Key: api.Key{N: 8}, Desc: api.Desc{Kids: make([]api.Desc, 60)}}
	for _, c := range []struct {
		l []api.Entry
		e api.Errno
	}{
		{[]api.Entry{of(8, 0, 3), of(8, 0, 1)}, api.ErrTwice}, {[]api.Entry{of(8, 0, 3), of(8, 0, 3), of(7, 0, 1), big}, api.ErrSize}, {[]api.Entry{of(8, 0, 3), big, of(7, 0, 1)}, api.ErrBig}, {[]api.Entry{of(8, 2, 3)}, api.ErrArg}, {[]api.Entry{of(8, 0, 2)}, api.ErrDesc},
	} {
		if s, e := Print(c.l); s != "" || e != c.e {
			t.Error(c, s, e)
		}
	}
}

// P25.2: a text of just as many bytes as there may be, and of one more.
func TestPrintBig(t *testing.T) {
	l := many(1000)
	for i := range l {
		l[i].Desc = long(l[i].Key.N, 6)
	}
	size := func(l []api.Entry) int {
		n := len("dulcimer 1\n")
		for _, x := range l {
			line, _ := entry.Print(x)
			n += len(line) + 1
		}
		return n
	}
	// The word good is shorter by one than split, and there are many plans of which the root may be either.
	for size(l) > api.MaxText+100 {
		l = l[1:]
	}
	for i := 0; size(l) > api.MaxText+1; i++ {
		if d := &l[i].Desc; d.Kind == api.Split {
			d.Kind = api.Good
			if entry.Check(l[i]) != api.OK {
				d.Kind = api.Split
			}
		}
	}
	over := slices.Clone(l)
	if size(l) != api.MaxText+1 {
		t.Fatal("the text has", size(l))
	}
	for i := range l {
		if d := l[i].Desc; d.Kind == api.Split {
			l[i].Desc.Kind = api.Good
			if entry.Check(l[i]) == api.OK {
				break
			}
			l[i].Desc.Kind = api.Split
		}
	}
	if s, e := Print(l); e != api.OK || len(s) != api.MaxText {
		t.Error("as many as there may be", len(s), e)
	}
	if s, e := Print(over); s != "" || e != api.ErrBig {
		t.Error("one more", len(s), e)
	}
	if s, e := Print(append(over, over[0])); s != "" || e != api.ErrTwice {
		t.Error("ErrTwice ahead of ErrBig", e)
	}
}

// long tells a plan with many splits.
func long(n, depth int) api.Desc {
	for a := 2; depth > 1 && a*a <= n; a++ {
		if n%a == 0 && root.Has(a) {
			best := a
			for b := a; b*b <= n; b++ {
				if n%b == 0 {
					best = b
				}
			}
			return api.Desc{Kind: api.Split, N: n, Kids: []api.Desc{long(best, depth-1), long(n/best, depth-1)}}
		}
	}
	d, _ := cand.Plain(n)
	return d
}

// P25.3, P25.4
func TestParse(t *testing.T) {
	for _, c := range []struct {
		s    string
		line int
		e    api.Errno
	}{
		{"", 1, api.ErrVersion}, {"dulcimer 1", 1, api.ErrVersion}, {"dulcimer 2\n", 1, api.ErrVersion}, {"dulcimer 11\n", 1, api.ErrVersion}, {"dulcimer 1 \n", 1, api.ErrVersion}, {" dulcimer 1\n", 1, api.ErrVersion}, {"Dulcimer 1\n", 1, api.ErrVersion}, {"dulcimer 1\r\n", 1, api.ErrVersion},
		{"dulcimer 1\n8 0 stock8", 2, api.ErrSyntax}, {"dulcimer 1\n8 0 stock8\n\n", 3, api.ErrSyntax}, {"dulcimer 1\n\n8 0 stock8\n", 2, api.ErrSyntax}, {"dulcimer 1\n8 0 stock8\n7 0 naive7\n", 3, api.ErrSize}, {"dulcimer 1\n8 0 stock8\n7 0 naive7", 3, api.ErrSyntax},
		{"dulcimer 1\n8 0 stock8\n2 0 small2\n8 0 naive8\n", 4, api.ErrTwice}, {"dulcimer 1\n8 0 stock8\n8 0 stock8\n7", 3, api.ErrTwice}, {"dulcimer 1\n8 2 stock8\n", 2, api.ErrArg}, {"dulcimer 1\n8 0 small8\n", 2, api.ErrDesc}, {"dulcimer 1\n8 0 stock8\n8 0 small8\n", 3, api.ErrDesc},
		{"dulcimer 1\n8 0 " + strings.Repeat("x", 5000) + "\n", 2, api.ErrBig}, {strings.Repeat("x", api.MaxText+1), 0, api.ErrBig}, {"dulcimer 1\n" + strings.Repeat("x", api.MaxText), 0, api.ErrBig}, {strings.Repeat("x", api.MaxText), 1, api.ErrVersion}, {"dulcimer 1\n" + strings.Repeat("x", api.MaxText-11), 2, api.ErrSyntax},
	} {
		if l, line, e := Parse(c.s); len(l) != 0 || line != c.line || e != c.e {
			t.Error(c.s[:min(len(c.s), 60)], l, line, e)
		}
	}
	if l, line, e := Parse("dulcimer 1\n"); len(l) != 0 || line != 0 || e != api.OK {
		t.Error(l, line, e)
	}
	l, line, e := Parse("dulcimer 1\n8 1 stock8\n2 0 small2\n8 0 naive8\n")
	if line != 0 || e != api.OK || !same(l, []api.Entry{of(2, 0, 2), of(8, 0, 1), of(8, 1, 3)}) {
		t.Error(l, line, e)
	}
}

// P25.4
func TestBack(t *testing.T) {
	for n := range 60 {
		l := many(n)
		s, e := Print(l)
		if e != api.OK {
			t.Fatal(e)
		}
		got, _, e := Parse(s)
		if again, _ := Print(got); e != api.OK || again != s || !same(got, l) {
			t.Error(n, e)
		}
	}
}
