package script

import (
	"math"
	"reflect"
	"strings"
	"testing"

	"dulcimer/api"
	"dulcimer/chance"
	"dulcimer/draw"
	"dulcimer/play"
)

func full() api.Call {
	return api.Call{Key: api.Key{N: 8, Dir: 1}, Text: "a\n\xff", Of: api.Ref{Who: 2, At: -3}, X: []uint64{0, 1<<64 - 1}}
}

func of(kind int) api.Call {
	c := full()
	c.Kind = kind
	return c
}

func all() play.Script {
	return play.Script{Stripes: -2, Room: 64, Picks: []int{0, -1, math.MinInt}, Ticks: []int{math.MaxInt}, Clients: [][]api.Call{
		{of(1), of(2), of(3), of(4), of(5), of(6), of(7)}, nil, {{Kind: 4}, {Kind: 6}},
	}}
}

const text = "play -2 64\npicks 0 -1 -9223372036854775808\nticks 9223372036854775807\n" +
	"client\nget 8 1\nlookup 8 1\nevict 8 1\nimport 610aff\nexport\nexecute 2 -3 0 18446744073709551615\nrelease 2 -3\nclient\nclient\nimport\nexecute 0 0\n"

// P42.1
func TestOwn(t *testing.T) {
	f := full()
	for kind, want := range map[int]api.Call{
		0: {}, 1: {Kind: 1, Key: f.Key}, 2: {Kind: 2, Key: f.Key}, 3: {Kind: 3, Key: f.Key}, 4: {Kind: 4, Text: f.Text}, 5: {Kind: 5}, 6: {Kind: 6, Of: f.Of, X: f.X}, 7: {Kind: 7, Of: f.Of}, 8: {Kind: 8}, -1: {Kind: -1},
	} {
		if got := Own(of(kind)); !reflect.DeepEqual(got, want) {
			t.Error(kind, got)
		}
	}
	Own(of(6)).X[0] = 9
	c := of(6)
	if Own(c).X[0] = 9; c.X[0] != 0 {
		t.Error("shared")
	}
}

// owned tells a script whose calls are their own.
func owned(s play.Script) play.Script {
	var clients [][]api.Call
	for _, calls := range s.Clients {
		var l []api.Call
		for _, c := range calls {
			l = append(l, Own(c))
		}
		clients = append(clients, l)
	}
	s.Clients = clients
	return s
}

// P42.2, P42.3, P42.4
func TestPrint(t *testing.T) {
	s := play.Script{Stripes: 1, Room: 1, Clients: [][]api.Call{{{Kind: api.CallGet, Key: api.Key{N: 8}}}}}
	if got, e := Print(s); got != "play 1 1\npicks\nticks\nclient\nget 8 0\n" || e != api.OK {
		t.Error("the chapter's example", got, e)
	}
	if got, e := Print(all()); got != text || e != api.OK {
		t.Error(got, e)
	}
	if got, e := Print(play.Script{}); got != "play 0 0\npicks\nticks\n" || e != api.OK {
		t.Error(got, e)
	}
	for _, kind := range []int{0, 8, -1, math.MinInt} {
		s.Clients[0] = append(s.Clients[0][:1], api.Call{Kind: kind})
		s.Picks = make([]int, 1<<20)
		if got, e := Print(s); got != "" || e != api.ErrArg {
			t.Error(kind, e)
		}
	}
	var c chance.Chance = 6
	for range 300 {
		s := draw.Script(&c, c.Next(40))
		got, e1 := Print(s)
		back, line, e2 := Parse(got)
		if e1 != api.OK || e2 != api.OK || line != 0 || !reflect.DeepEqual(back, owned(s)) {
			t.Fatal(s, back, line, e1, e2)
		}
		if again, _ := Print(back); again != got {
			t.Error(again)
		}
	}
}

// P42.3
func TestBig(t *testing.T) {
	// The text has 34 bytes, and two for each of the import's.
	s := play.Script{Clients: [][]api.Call{{{Kind: 4, Text: "x"}}}}
	short, _ := Print(s)
	s.Clients[0][0].Text = strings.Repeat("x", 1+(1<<20-len(short))/2)
	got, e := Print(s)
	if e != api.OK || len(got) < 1<<20-1 {
		t.Error(len(got), e)
	}
	if back, _, e := Parse(got); e != api.OK || back.Clients[0][0].Text != s.Clients[0][0].Text {
		t.Error(e)
	}
	s.Clients[0][0].Text += "x"
	if got, e := Print(s); got != "" || e != api.ErrBig {
		t.Error(len(got), e)
	}
	if s, line, e := Parse(got + strings.Repeat("client\n", 3)); e != api.ErrBig || line != 0 || len(s.Clients) != 0 {
		t.Error(line, e)
	}
	if _, line, e := Parse(strings.Repeat("x", 1<<20)); e != api.ErrSyntax || line != 1 {
		t.Error(line, e)
	}
}

// P42.3
func TestParse(t *testing.T) {
	if s, line, e := Parse(text); e != api.OK || line != 0 || !reflect.DeepEqual(s, owned(all())) {
		t.Error(s, line, e)
	}
	head := "play 1 1\npicks 0 1\nticks\n"
	for _, c := range []struct {
		s    string
		line int
	}{
		{"", 1}, {"play 1 1", 1}, {"play 1 1\n", 2}, {"play 1 1\npicks\n", 3}, {"play 1 1\npicks\nticks", 3}, {"\n", 1}, {"play 1\n", 1}, {"play 1 1 1\n", 1}, {"play a 1\n", 1}, {"Play 1 1\n", 1}, {"play 01 1\n", 1}, {"play -0 1\n", 1}, {"play +1 1\n", 1}, {"play 1  1\n", 1}, {"play 1 1 \n", 1}, {" play 1 1\n", 1}, {"play\t1 1\n", 1}, {"play 9223372036854775808 1\n", 1}, {"play 1 0x1\n", 1}, {"play 1 1_0\n", 1}, {"picks\nplay 1 1\nticks\n", 1},
		{"play 1 1\nticks\npicks\n", 2}, {"play 1 1\npicks x\nticks\n", 2}, {"play 1 1\npicks 1,2\nticks\n", 2}, {"play 1 1\npicks\ntick\n", 3}, {"play 1 1\npicks\nticks -9223372036854775809\n", 3}, {"play 1 1\npicks\nclient\n", 3},
		{head + "get 8 0\n", 4}, {head + "\n", 4}, {head + "client", 4}, {head + "client 1\n", 4}, {head + "clients\n", 4}, {head + "picks\n", 4}, {head + "client\nget 8 0\nclient\nget 8\n", 7}, {head + "client\nget 8 0 0\n", 5}, {head + "client\nget 8 -0\n", 5}, {head + "client\nGET 8 0\n", 5}, {head + "client\nget8 0\n", 5}, {head + "client\nget\n", 5},
		{head + "client\nexport 1\n", 5}, {head + "client\nrelease 1\n", 5}, {head + "client\nrelease 1 1 1\n", 5}, {head + "client\nrelease 1 x\n", 5}, {head + "client\nexecute\n", 5}, {head + "client\nexecute 1\n", 5}, {head + "client\nexecute 1 1 -1\n", 5}, {head + "client\nexecute 1 1 18446744073709551616\n", 5}, {head + "client\nexecute 1 1 00\n", 5}, {head + "client\nexecute 1 1 +1\n", 5},
		{head + "client\nimport 6\n", 5}, {head + "client\nimport 6A\n", 5}, {head + "client\nimport 6g\n", 5}, {head + "client\nimport 61 61\n", 5}, {head + "client\nimport \n", 5}, {head + "client\nimport 61\xff\n", 5}, {head + "client\nget 8 0\nget 8 0", 6}, {head + "client\r\n", 4}, {head + "client\n\n", 5},
	} {
		if s, line, e := Parse(c.s); e != api.ErrSyntax || line != c.line || !reflect.DeepEqual(s, play.Script{}) {
			t.Errorf("%q %v %v", c.s, line, e)
		}
	}
}
