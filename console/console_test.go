package console

import (
	"math"
	"strings"
	"testing"

	"dulcimer/api"
	"dulcimer/audit"
	"dulcimer/bound"
	"dulcimer/chance"
	"dulcimer/draw"
	"dulcimer/play"
	"dulcimer/report"
	"dulcimer/script"
)

// P47.1
func TestLook(t *testing.T) {
	if Look(nil) != "look fine" || Look([]int{2, 5}) != "look 2 5" || Look([]int{-3, 0, math.MaxInt}) != "look -3 0 9223372036854775807" {
		t.Error("the chapter's examples", Look(nil), Look([]int{2, 5}))
	}
}

// P47.1
func TestLoads(t *testing.T) {
	op := func(kind, from, to int, e api.Errno) api.Op {
		return api.Op{Call: api.Call{Kind: kind}, From: from, To: to, Told: api.Told{E: e}}
	}
	l := []api.Op{op(7, 0, 9, 0), op(1, 1, -1, 0), op(7, 2, 4, 6), op(0, 3, 5, 0), op(8, 3, 5, 0), op(4, 6, 7, 3)}
	if got := Loads(l); got != "get 1 0 0 0\nimport 1 1 1 1\nrelease 2 1 2 9\n" {
		t.Error(got)
	}
	var all []api.Op
	for kind := range 9 {
		all = append(all, op(kind, 0, 1, 0))
	}
	if got := Loads(all); got != "get 1 0 1 1\nlookup 1 0 1 1\nevict 1 0 1 1\nimport 1 0 1 1\nexport 1 0 1 1\nexecute 1 0 1 1\nrelease 1 0 1 1\n" {
		t.Error(got)
	}
	if Loads(nil) != "" || Loads(l[3:5]) != "" {
		t.Error("none")
	}
}

// P47.2
func TestDo(t *testing.T) {
	text := "play 1 1\npicks 0 0 0 0 0 0 0 0 0 0 0 0 0 0 0 0 0 0\nticks\nclient\nget 2 0\nexecute 0 0 1 2\nevict 2 0\n"
	want := "0.0 0-1 get 2 0: ok stock2\n0.1 2-3 execute 0 0 1 2: ok 2 2\n0.2 4-5 evict 2 0: ok 1\npending 0\nmeasured 1 built 1 inserted 1\nkept 0:\nknown 1\ntable 1 2 0 0 uses 1\nlook fine\nget 1 0 1 1\nevict 1 0 1 1\nexecute 1 0 1 1\n"
	if out, line, e := Do(text); out != want || line != 0 || e != api.OK {
		t.Error(out, line, e)
	}
	for _, c := range []struct {
		s    string
		line int
		e    api.Errno
	}{
		{"", 1, api.ErrSyntax}, {"play 1 1\npicks\nticks\nget 8 0\n", 4, api.ErrSyntax}, {strings.Repeat("x", 1<<20+1), 0, api.ErrBig}, {"play 0 1\npicks\nticks\n", 0, api.ErrArg}, {"play 1 65\npicks\nticks\n", 0, api.ErrArg},
		{"play 1 1\npicks\nticks\n" + strings.Repeat("client\n", 9), 0, api.ErrBig}, {"play 1 1\npicks\nticks\nclient\n" + strings.Repeat("export\n", 17), 0, api.ErrBig}, {"play 1 1\npicks" + strings.Repeat(" 0", 4097) + "\nticks\n", 0, api.ErrBig},
	} {
		if out, line, e := Do(c.s); out != "" || line != c.line || e != c.e {
			t.Error(c.line, c.e, out, line, e)
		}
	}
	if out, _, e := Do("play 2 1\npicks\nticks\n"); e != api.OK || out != "pending 0\nmeasured 0 built 0 inserted 0\nkept 0:\nkept 1:\nknown 0\nlook fine\n" {
		t.Error(out, e)
	}
}

// P47.2, P47.3
func TestAny(t *testing.T) {
	var c chance.Chance = 21
	for range 300 {
		s := draw.Script(&c, 1+c.Next(40))
		text, _ := script.Print(s)
		out, line, e := Do(text)
		a, _ := play.Run(s)
		rounds, _ := bound.Rounds(a.Pending, s.Stripes, len(s.Clients))
		b, _ := play.Drain(s, rounds)
		if e != api.OK || line != 0 || out != report.All(b)+Look(audit.Look(s, b))+"\n"+Loads(b.Ops) || !strings.Contains(out, "\nlook fine\n") || !strings.Contains(out, "pending 0\n") {
			t.Fatal(text, out, e)
		}
		read, _, _ := script.Parse(text)
		again, _ := script.Print(read)
		if other, _, _ := Do(again); other != out {
			t.Error("told another way", again)
		}
	}
}
