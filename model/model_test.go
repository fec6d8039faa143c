package model

import (
	"fmt"
	"math"
	"slices"
	"strings"
	"testing"

	"dulcimer/api"
	"dulcimer/chance"
	"dulcimer/desc"
	"dulcimer/dft"
	"dulcimer/entry"
)

func key(n int) api.Key { return api.Key{N: n} }

func leaf(kind, n int) api.Desc { return api.Desc{Kind: kind, N: n} }

func known1(n, kind int) api.Entry { return api.Entry{Key: key(n), Desc: leaf(kind, n)} }

func ref(i int) api.Ref { return api.Ref{At: i} }

func of(kind, n int) api.Call { return api.Call{Kind: kind, Key: key(n)} }

// asks goes on by calls, one after another, each of which may be asked.
type asks struct {
	t *testing.T
	s State
	n int
}

func start(t *testing.T, stripes, room int) *asks {
	s, e := New(stripes, room)
	if e != api.OK {
		t.Fatal(e)
	}
	return &asks{t: t, s: s}
}

// ask makes a call, and looks whether Answer, Any and Step agree.
func (a *asks) ask(c api.Call, d api.Desc, want api.Told) {
	a.t.Helper()
	keep := clone(a.s)
	told, ok := Answer(a.s, ref(a.n), c, d)
	any, may := Any(a.s, ref(a.n), c, d)
	step, did := Step(a.s, ref(a.n), c, told)
	if !ok || !may || !did || !Alike(told, want) || !Same(any, step) {
		a.t.Error("call", a.n, c, told, ok, may, did)
	}
	for _, bad := range []api.Told{{E: told.E + 1}, {E: told.E, N: told.N + 1}, {E: told.E, Line: told.Line + 1}, {E: told.E, Text: told.Text + "x"}, {E: told.E, Y: append(slices.Clone(told.Y), 1)}} {
		bad.Desc = told.Desc
		if s, ok := Step(a.s, ref(a.n), c, bad); ok || !Same(s, State{}) {
			a.t.Error("told what it does not tell", c, bad)
		}
	}
	if !Same(a.s, keep) {
		a.t.Error("changed", c)
	}
	a.s = any
	a.n++
}

// no looks that a call may not be asked.
func (a *asks) no(r api.Ref, c api.Call, d api.Desc) {
	a.t.Helper()
	told, ok := Answer(a.s, r, c, d)
	s, may := Any(a.s, r, c, d)
	_, did := Step(a.s, r, c, api.Told{Desc: d})
	if ok || may || did || !Alike(told, api.Told{}) || !Same(s, State{}) {
		a.t.Error("it may not be asked", c)
	}
}

func (a *asks) kept(i int, want ...int) {
	a.t.Helper()
	var keys []api.Key
	for _, n := range want {
		keys = append(keys, key(n))
	}
	if !slices.Equal(a.s.Kept[i], keys) {
		a.t.Error("Kept", a.s.Kept[i])
	}
}

// P36.1
func TestNew(t *testing.T) {
	for _, c := range [][2]int{{0, 1}, {17, 1}, {1, 0}, {1, 65}, {-1, 1}, {1, math.MinInt}} {
		if s, e := New(c[0], c[1]); e != api.ErrArg || !Same(s, State{}) {
			t.Error(c, e)
		}
	}
	s, e := New(16, 64)
	if e != api.OK || len(s.Kept) != 16 || s.Room != 64 || len(s.Known)+len(s.Open) != 0 {
		t.Error(s, e)
	}
}

// P36.1
func TestSame(t *testing.T) {
	full := func() State {
		return State{Room: 2, Known: []api.Entry{known1(8, 3)}, Kept: [][]api.Key{{key(8)}, nil}, Open: []Open{{Ref: ref(1), X: known1(8, 3)}}}
	}
	if !Same(full(), full()) || !Same(State{Kept: [][]api.Key{{}}, Known: []api.Entry{}}, State{Kept: [][]api.Key{nil}}) {
		t.Error("Same")
	}
	for i, change := range []func(s *State){
		func(s *State) { s.Room++ }, func(s *State) { s.Known[0].Desc.Kind = 1 }, func(s *State) { s.Known = nil }, func(s *State) { s.Kept[0] = nil }, func(s *State) { s.Kept = s.Kept[:1] }, func(s *State) { s.Kept[1] = []api.Key{key(2)} }, func(s *State) { s.Open[0].Gone = true }, func(s *State) { s.Open[0].Ref.Who = 4 }, func(s *State) { s.Open[0].X.Key.Dir = 1 }, func(s *State) { s.Open = nil },
	} {
		s := full()
		change(&s)
		if Same(s, full()) || Same(full(), s) {
			t.Error("not the same", i)
		}
	}
	told := func() api.Told { return api.Told{E: 1, Desc: leaf(1, 2), N: 3, Line: 4, Text: "5", Y: []uint64{6}} }
	if !Alike(told(), told()) || !Alike(api.Told{Y: []uint64{}}, api.Told{}) {
		t.Error("Alike")
	}
	for i, change := range []func(x *api.Told){
		func(x *api.Told) { x.E++ }, func(x *api.Told) { x.Desc.N++ }, func(x *api.Told) { x.N++ }, func(x *api.Told) { x.Line++ }, func(x *api.Told) { x.Text = "" }, func(x *api.Told) { x.Y[0] += api.P }, func(x *api.Told) { x.Y = nil },
	} {
		x := told()
		change(&x)
		if Alike(x, told()) {
			t.Error("not alike", i)
		}
	}
}

// P36.2, P36.3, P36.4
func TestGetLookupEvict(t *testing.T) {
	a := start(t, 2, 2)
	stock := leaf(api.Stock, 8)
	a.ask(of(api.CallEvict, 8), api.Desc{}, api.Told{})
	a.ask(of(api.CallLookup, 8), api.Desc{}, api.Told{E: api.ErrNone})
	a.no(ref(9), of(api.CallGet, 8), api.Desc{})
	a.no(ref(9), of(api.CallGet, 8), leaf(api.Stock, 4))
	a.ask(of(api.CallGet, 8), stock, api.Told{Desc: stock})
	if !Same(a.s, State{Room: 2, Known: []api.Entry{known1(8, 3)}, Kept: [][]api.Key{{key(8)}, nil}, Open: []Open{{Ref: ref(2), X: known1(8, 3)}}}) {
		t.Error(a.s)
	}
	a.no(ref(2), of(api.CallGet, 8), stock)
	a.no(ref(2), of(api.CallLookup, 8), stock)
	a.ask(of(api.CallGet, 4), leaf(api.Small, 4), api.Told{Desc: leaf(api.Small, 4)})
	a.kept(0, 4, 8)
	// What is known is told, whatever would be chosen.
	a.ask(of(api.CallGet, 8), api.Desc{}, api.Told{Desc: stock})
	a.kept(0, 8, 4)
	a.ask(of(api.CallLookup, 4), stock, api.Told{Desc: leaf(api.Small, 4)})
	a.kept(0, 4, 8)
	a.ask(of(api.CallGet, 2), leaf(api.Naive, 2), api.Told{Desc: leaf(api.Naive, 2)})
	a.kept(0, 2, 4)
	a.ask(of(api.CallLookup, 8), api.Desc{}, api.Told{E: api.ErrNone})
	a.ask(of(api.CallEvict, 4), api.Desc{}, api.Told{N: 1})
	a.kept(0, 2)
	if len(a.s.Open) != 5 || len(a.s.Known) != 3 || a.s.Known[0].Key != key(2) || a.s.Open[4].Ref != ref(6) {
		t.Error(a.s)
	}
	odd := api.Call{Kind: api.CallGet, Key: api.Key{N: 8, Dir: 1}}
	a.ask(odd, stock, api.Told{Desc: stock})
	if !slices.Equal(a.s.Kept[1], []api.Key{{N: 8, Dir: 1}}) {
		t.Error("the other stripe", a.s.Kept)
	}
	for _, kind := range []int{api.CallGet, api.CallLookup, api.CallEvict} {
		a.n = 2 // a handle of that name is open: an error is told all the same
		a.ask(api.Call{Kind: kind, Key: api.Key{N: 7, Dir: 5}}, stock, api.Told{E: api.ErrSize})
		a.ask(api.Call{Kind: kind, Key: api.Key{N: 8, Dir: 5}}, stock, api.Told{E: api.ErrArg})
		a.ask(api.Call{Kind: kind, Key: api.Key{N: 8, Dir: -1}}, stock, api.Told{E: api.ErrArg})
	}
	for _, kind := range []int{0, 8, -1, math.MaxInt} {
		a.no(ref(99), of(kind, 8), stock)
	}
}

// P36.3: which stripe has a key.
func TestStripes(t *testing.T) {
	for stripes := 1; stripes <= 16; stripes++ {
		for _, k := range []api.Key{key(1), key(2), key(3), {N: 5, Dir: 1}, key(17), {N: 60, Dir: 1}} {
			s, _ := New(stripes, 3)
			s, ok := Any(s, ref(0), api.Call{Kind: api.CallGet, Key: k}, leaf(api.Naive, k.N))
			if !ok || !slices.Equal(s.Kept[(2*k.N+k.Dir)%stripes], []api.Key{k}) {
				t.Error(stripes, k, s.Kept)
			}
		}
	}
}

// P36.2, P36.3
func TestTexts(t *testing.T) {
	a := start(t, 3, 1)
	a.ask(of(api.CallGet, 8), leaf(api.Stock, 8), api.Told{Desc: leaf(api.Stock, 8)})
	text := "dulcimer 1\n8 0 naive8\n2 1 small2\n3 0 naive3\n"
	a.ask(api.Call{Kind: api.CallImport, Text: text}, api.Desc{}, api.Told{N: 2})
	a.ask(api.Call{Kind: api.CallImport, Text: text}, api.Desc{}, api.Told{})
	want := "dulcimer 1\n2 1 small2\n3 0 naive3\n8 0 stock8\n"
	a.ask(api.Call{Kind: api.CallExport}, api.Desc{}, api.Told{Text: want})
	before := a.s
	for s, told := range map[string]api.Told{"": {E: api.ErrVersion, Line: 1}, "dulcimer 1\n16 0 stock16\n7 0 naive7\n": {E: api.ErrSize, Line: 3}, strings.Repeat("x", api.MaxText+1): {E: api.ErrBig}, "dulcimer 1\n4 0 stock4\n4 0 stock4\n": {E: api.ErrTwice, Line: 3}} {
		a.ask(api.Call{Kind: api.CallImport, Text: s}, api.Desc{}, told)
	}
	a.ask(api.Call{Kind: api.CallExport}, api.Desc{}, api.Told{Text: want})
	if !Same(a.s, before) {
		t.Error("an error changes something")
	}
}

// P36.2, P36.3
func TestHandles(t *testing.T) {
	a := start(t, 1, 1)
	back := api.Call{Kind: api.CallGet, Key: api.Key{N: 2, Dir: 1}}
	x := []uint64{1, api.P + 2}
	execute := api.Call{Kind: api.CallExecute, Of: ref(0), X: x}
	release := api.Call{Kind: api.CallRelease, Of: ref(0)}
	a.no(ref(5), execute, leaf(api.Small, 2))
	a.no(ref(5), release, leaf(api.Small, 2))
	a.ask(back, leaf(api.Small, 2), api.Told{Desc: leaf(api.Small, 2)})
	y, _ := dft.Dft(x, 1)
	a.ask(execute, api.Desc{}, api.Told{Y: y})
	execute.X = x[:1]
	a.ask(execute, api.Desc{}, api.Told{E: api.ErrLen})
	a.ask(of(api.CallEvict, 2), api.Desc{}, api.Told{})
	a.ask(release, api.Desc{}, api.Told{})
	if !a.s.Open[0].Gone || len(a.s.Open) != 1 || len(a.s.Kept[0]) != 1 {
		t.Error(a.s)
	}
	a.ask(release, api.Desc{}, api.Told{E: api.ErrReleased})
	a.ask(execute, api.Desc{}, api.Told{E: api.ErrReleased})
	a.no(ref(0), back, leaf(api.Small, 2))
	a.ask(of(api.CallGet, 4096), leaf(api.Stock, 4096), api.Told{Desc: leaf(api.Stock, 4096)})
	one := make([]uint64, 4096)
	one[0] = 3
	a.ask(api.Call{Kind: api.CallExecute, Of: ref(7), X: one}, api.Desc{}, api.Told{Y: slices.Repeat([]uint64{3}, 4096)})
	a.ask(of(api.CallGet, 8192), leaf(api.Stock, 8192), api.Told{Desc: leaf(api.Stock, 8192)})
	big := api.Call{Kind: api.CallExecute, Of: ref(9), X: make([]uint64, 8192)}
	a.no(ref(50), big, api.Desc{})
	big.X = big.X[:8191]
	a.ask(big, api.Desc{}, api.Told{E: api.ErrLen})
}

// P36.4: what is told may be told by its own plan alone.
func TestStep(t *testing.T) {
	s, _ := New(1, 1)
	if _, ok := Step(s, ref(0), of(api.CallGet, 8), api.Told{Desc: leaf(api.Stock, 4)}); ok {
		t.Error("no plan for it")
	}
	if got, ok := Step(s, ref(0), of(api.CallGet, 8), api.Told{Desc: leaf(api.Naive, 8)}); !ok || got.Known[0].Desc.Kind != api.Naive {
		t.Error(got, ok)
	}
	s, _ = Any(s, ref(0), of(api.CallGet, 8), leaf(api.Stock, 8))
	if _, ok := Step(s, ref(1), of(api.CallGet, 8), api.Told{Desc: leaf(api.Naive, 8)}); ok {
		t.Error("another is known")
	}
}

// P36.5, and all that is told is new memory.
func TestAny(t *testing.T) {
	ch := chance.Chance(7)
	next := ch.Next
	for range 40 {
		room := 1 + next(3)
		s, _ := New(1+next(3), room)
		for i := range 60 {
			n := []int{2, 3, 4, 5, 8}[next(5)]
			c := api.Call{Kind: 1 + next(7), Key: api.Key{N: n, Dir: next(2)}, Text: "dulcimer 1\n2 0 naive2\n8 1 split8(small2,small4)\n", Of: ref(next(60)), X: make([]uint64, n)}
			d := api.Desc{Kind: api.Naive, N: n}
			if n == 4 {
				d = api.Desc{Kind: api.Split, N: n, Kids: []api.Desc{leaf(api.Small, 2), leaf(api.Small, 2)}}
			}
			told, ok := Answer(s, ref(i), c, d)
			after, may := Any(s, ref(i), c, d)
			if ok != may {
				t.Fatal(c, ok, may)
			}
			if !ok {
				continue
			}
			if _, did := Step(s, ref(i), c, told); !did {
				t.Error("Step", c, told)
			}
			for _, x := range s.Known {
				if d, ok := known(after, x.Key); !ok || !desc.Same(d, x.Desc) {
					t.Error("what is known stays known")
				}
			}
			for _, row := range after.Kept {
				if len(row) > room {
					t.Error("more than Room")
				}
				for _, k := range row {
					if _, ok := known(after, k); !ok {
						t.Error("kept, and not known")
					}
				}
			}
			if !slices.EqualFunc(entry.Sort(after.Known), after.Known, entry.Same) {
				t.Error("Known is not by keys")
			}
			keep := fmt.Sprint(after)
			scribble(s)
			scribble(State{Known: []api.Entry{{Desc: told.Desc}}})
			if fmt.Sprint(after) != keep {
				t.Fatal("shared", c)
			}
			s = after
		}
	}
}

func scribble(s State) {
	for i := range s.Known {
		s.Known[i].Key.N = -1
		for j := range s.Known[i].Desc.Kids {
			s.Known[i].Desc.Kids[j].N = -1
		}
	}
	for _, row := range s.Kept {
		for i := range row {
			row[i].N = -1
		}
	}
	for i := range s.Open {
		s.Open[i].Gone = true
		for j := range s.Open[i].X.Desc.Kids {
			s.Open[i].X.Desc.Kids[j].N = -1
		}
	}
}

// None of these is a state that may come; no call panics all the same.
func TestOddStates(t *testing.T) {
	for _, s := range []State{{}, {Room: -5, Kept: [][]api.Key{{key(8)}}}, {Kept: make([][]api.Key, 2)}} {
		for kind := range 9 {
			c := api.Call{Kind: kind, Key: key(8)}
			Answer(s, ref(0), c, leaf(api.Stock, 8))
			Any(s, ref(0), c, leaf(api.Stock, 8))
			Step(s, ref(0), c, api.Told{Desc: leaf(api.Stock, 8)})
		}
	}
}
