package lin

import (
	"slices"
	"testing"
	"time"

	"dulcimer/api"
	"dulcimer/cand"
	"dulcimer/chance"
	"dulcimer/desc"
	"dulcimer/hist"
	"dulcimer/model"
)

func key(n int) api.Key { return api.Key{N: n} }

func plain(n int) api.Desc {
	d, _ := cand.Plain(n)
	return d
}

func get(who, at, n, from, to int) api.Op {
	o := api.Op{Ref: api.Ref{Who: who, At: at}, Call: api.Call{Kind: api.CallGet, Key: key(n)}, From: from, To: to}
	if to != never {
		o.Told.Desc = plain(n)
	}
	return o
}

func other(kind, who, at, n, from, to int, told api.Told) api.Op {
	return api.Op{Ref: api.Ref{Who: who, At: at}, Call: api.Call{Kind: kind, Key: key(n)}, From: from, To: to, Told: told}
}

func fits(t *testing.T, what string, stripes, room int, l []api.Op) []int {
	t.Helper()
	order, plans, e := Find(stripes, room, l)
	if e != api.OK || !Fits(stripes, room, l, order, plans) {
		t.Error(what, order, plans, e)
	}
	return order
}

func none(t *testing.T, what string, stripes, room int, l []api.Op, want api.Errno) {
	t.Helper()
	if order, plans, e := Find(stripes, room, l); e != want || len(order)+len(plans) != 0 {
		t.Error(what, order, plans, e)
	}
}

// P38.2
func TestFind(t *testing.T) {
	evict := func(from, to, n int) api.Op { return other(api.CallEvict, 1, 0, 8, from, to, api.Told{N: n}) }
	if order := fits(t, "the chapter's example", 1, 1, []api.Op{evict(2, 5, 1), get(0, 0, 8, 1, 6)}); !slices.Equal(order, []int{1, 0}) {
		t.Error(order)
	}
	if order := fits(t, "by a pending one", 1, 1, []api.Op{evict(2, 5, 1), get(0, 0, 8, 1, never)}); !slices.Equal(order, []int{1, 0}) {
		t.Error(order)
	}
	if order := fits(t, "not by a pending one", 1, 1, []api.Op{evict(2, 5, 0), get(0, 0, 8, 1, never)}); !slices.Equal(order, []int{0}) {
		t.Error(order)
	}
	none(t, "it began too late", 1, 1, []api.Op{evict(2, 5, 1), get(0, 0, 8, 6, never)}, api.ErrNone)
	none(t, "it had ended", 1, 1, []api.Op{evict(2, 5, 0), get(0, 0, 8, 0, 1)}, api.ErrNone)
	fits(t, "none", 1, 1, nil)
	none(t, "ErrArg", 0, 1, []api.Op{get(0, 0, 8, -1, 1)}, api.ErrArg)
	none(t, "ErrArg", 1, 65, nil, api.ErrArg)
	none(t, "ErrRange", 1, 1, []api.Op{get(0, 0, 8, -1, 1)}, api.ErrRange)
	none(t, "ErrTwice", 1, 1, []api.Op{get(0, 0, 8, 0, 1), get(1, 0, 8, 1, 2)}, api.ErrTwice)
	var many []api.Op
	for i := range 13 {
		many = append(many, other(api.CallEvict, 0, i, 8, 2*i, 2*i+1, api.Told{}))
	}
	fits(t, "twelve", 1, 1, many[:12])
	none(t, "ErrBig", 1, 1, many, api.ErrBig)
	many[12].From = 3
	none(t, "a history first", 1, 1, many, api.ErrTwice)
}

// P38.2: the plan of a call that was told nothing is what others were told.
func TestPlans(t *testing.T) {
	naive := api.Desc{Kind: api.Naive, N: 8}
	pending := get(0, 0, 8, 0, never)
	for i, seen := range []api.Op{
		other(api.CallLookup, 1, 0, 8, 1, 2, api.Told{Desc: naive}),
		other(api.CallGet, 1, 0, 8, 1, 2, api.Told{Desc: naive}),
		other(api.CallExport, 1, 0, 0, 1, 2, api.Told{Text: "dulcimer 1\n8 0 naive8\n"}),
	} {
		fits(t, "seen", 1, 1, []api.Op{pending, seen})
		imported := other(api.CallImport, 2, 0, 0, 3, 4, api.Told{})
		imported.Call.Text = "dulcimer 1\n8 0 stock8\n"
		fits(t, "seen, and imported", 1, 1, []api.Op{pending, seen, imported})
		imported.Told.N = 1
		none(t, "imported too late", 1, 1, []api.Op{pending, seen, imported}, api.ErrNone)
		seen.Told.Desc.N = 4
		seen.Told.Text += "x"
		if i != 2 {
			none(t, "no plan for it", 1, 1, []api.Op{pending, seen}, api.ErrNone)
		}
	}
	bad := get(0, 0, 7, 0, never)
	fits(t, "no size", 1, 1, []api.Op{bad, other(api.CallExport, 1, 0, 0, 1, 2, api.Told{Text: "dulcimer 1\n"})})
}

// P38.1
func TestFits(t *testing.T) {
	l := []api.Op{get(0, 0, 8, 0, 1), other(api.CallEvict, 1, 0, 8, 2, 5, api.Told{N: 1}), get(2, 0, 8, 3, never)}
	zero := make([]api.Desc, 4)
	stock := plain(8)
	for i, c := range []struct {
		stripes, room int
		order         []int
		plans         []api.Desc
		ok            bool
	}{
		{1, 1, []int{0, 1}, zero[:2], true}, {1, 1, []int{0, 2, 1}, zero[:3], true}, {1, 1, []int{0, 1, 2}, []api.Desc{{}, {}, stock}, true}, {1, 1, []int{0, 1, 2}, zero[:3], true},
		{0, 1, []int{0, 1}, zero[:2], false}, {1, 0, []int{0, 1}, zero[:2], false}, {1, 1, []int{0}, zero[:1], false}, {1, 1, []int{0, 1}, zero[:3], false}, {1, 1, []int{0, 1}, zero[:1], false}, {1, 1, []int{0, 1, 1}, zero[:3], false}, {1, 1, []int{0, 1, 3}, zero[:3], false}, {1, 1, []int{0, 1, -1}, zero[:3], false},
		{1, 1, []int{1, 0}, zero[:2], false}, {1, 1, []int{2, 0, 1}, zero[:3], false}, {1, 1, nil, nil, false},
	} {
		if ok := Fits(c.stripes, c.room, l, c.order, c.plans); ok != c.ok {
			t.Error(i, c, ok)
		}
	}
	if !Fits(1, 1, nil, nil, nil) || Fits(1, 1, append(l, l[0]), []int{0, 1, 3}, zero[:3]) {
		t.Error("none, and no history")
	}
	// A pending Get may be first, if there is a plan for it.
	late := []api.Op{get(2, 0, 8, 0, never), get(0, 0, 8, 1, 2)}
	if !Fits(1, 1, late, []int{0, 1}, []api.Desc{stock, {}}) || Fits(1, 1, late, []int{0, 1}, zero[:2]) || Fits(1, 1, late, []int{0, 1}, []api.Desc{{Kind: api.Naive, N: 8}, {}}) {
		t.Error("plans")
	}
	wrong := slices.Clone(l)
	wrong[1].Told.N = 0
	if Fits(1, 1, wrong, []int{0, 1}, zero[:2]) {
		t.Error("told")
	}
}

// some tells a history that fits: calls one after another, whose beginnings and ends are then drawn apart.
func some(c *chance.Chance, stripes, room, calls, clients int) []api.Op {
	return drawn(c, stripes, room, calls, clients, 250, []int{2, 3, 4, 8}, []int{1, 2, 3, 4, 5, 6, 7})
}

// drawn is some, with calls of some sizes and kinds, each up to so long.
func drawn(c *chance.Chance, stripes, room, calls, clients, long int, sizes, kinds []int) []api.Op {
	s, _ := model.New(stripes, room)
	var l []api.Op
	next, free, moment := make([]int, clients), make([]int, clients), 0
	for i := 0; len(l) < calls; i++ {
		who := c.Next(clients)
		n := sizes[c.Next(len(sizes))]
		r := api.Ref{Who: who, At: next[who]}
		call := api.Call{Kind: kinds[c.Next(len(kinds))], Key: key(n), Text: "dulcimer 1\n2 0 naive2\n8 0 naive8\n", Of: api.Ref{Who: c.Next(clients), At: c.Next(3)}, X: make([]uint64, n)}
		call.X[1] = 5
		told, ok := model.Answer(s, r, call, plain(n))
		if !ok {
			continue
		}
		s, _ = model.Any(s, r, call, plain(n))
		next[who]++
		// Its moment is behind that of the one ahead of it; around that it is as long as its client lets it be.
		moment = max(moment, free[who]) + 1 + c.Next(100)
		from := max(free[who]+1, moment-c.Next(long))
		to := moment + c.Next(long)
		free[who] = to
		l = append(l, api.Op{Ref: r, Call: call, Told: told, From: from, To: to})
	}
	return shuffled(c, ranks(l))
}

// shuffled moves calls, so that the order in which they were made is not that in which they are looked at.
func shuffled(c *chance.Chance, l []api.Op) []api.Op {
	for i := range l {
		j := c.Next(i + 1)
		l[i], l[j] = l[j], l[i]
	}
	return l
}

// ranks makes times of places, each once, and the next call of one begin behind its last one's end.
func ranks(l []api.Op) []api.Op {
	type edge struct{ at, op, end int }
	var ms []edge
	for i, o := range l {
		ms = append(ms, edge{o.From, i, 0}, edge{o.To, i, 1})
	}
	slices.SortStableFunc(ms, func(a, b edge) int { return a.at - b.at })
	for place, m := range ms {
		if m.end == 0 {
			l[m.op].From = place
		} else {
			l[m.op].To = place
		}
	}
	return l
}

// by tells whether any order fits, by going on with whatever may come next; a Get that was told nothing has any plan worth a trial.
func by(l []api.Op, done int, s model.State) bool {
	all := true
	for i, o := range l {
		all = all && (o.To == never || done&(1<<i) != 0)
	}
	if all {
		return true
	}
	for i, o := range l {
		waits := slices.ContainsFunc(l, func(p api.Op) bool {
			j := slices.IndexFunc(l, func(q api.Op) bool { return q.Ref == p.Ref })
			return done&(1<<j) == 0 && hist.Ahead(p, o)
		})
		if done&(1<<i) != 0 || waits {
			continue
		}
		if o.To != never {
			if next, ok := model.Step(s, o.Ref, o.Call, o.Told); ok && by(l, done|1<<i, next) {
				return true
			}
			continue
		}
		plans, _ := cand.List(max(o.Call.Key.N, 1))
		for _, d := range plans {
			if next, ok := model.Any(s, o.Ref, o.Call, d); ok && !model.Same(next, s) && by(l, done|1<<i, next) {
				return true
			}
		}
	}
	return false
}

// P38.2, P38.3: held against all orders.
func TestAgainstAll(t *testing.T) {
	var c chance.Chance = 5
	no := 0
	for i := range 3000 {
		stripes, room := 1+c.Next(2), 1+c.Next(3)
		l := drawn(&c, stripes, room, 3+c.Next(7), 2+c.Next(7), 400+c.Next(1500), []int{2, 3, 4, 5, 8}, []int{1, 1, 1, 2, 2, 2, 3, 3, 4, 5, 6, 7})
		if hist.Check(l) != api.OK {
			t.Fatal(l)
		}
		fits(t, "what was told one after another", stripes, room, l)
		for range c.Next(3) {
			change(&c, l)
		}
		if i%2 == 0 {
			l = hist.Cut(l, 4+c.Next(10))
		}
		start, _ := model.New(stripes, room)
		want := by(l, 0, start)
		if !want {
			no++
		}
		order, plans, e := Find(stripes, room, l)
		if want != (e == api.OK) || want && !Fits(stripes, room, l, order, plans) || !want && e != api.ErrNone {
			t.Fatal(stripes, room, l, want, e)
		}
	}
	if no < 200 {
		t.Error("too few that do not fit", no)
	}
}

// change makes one call be told something else.
func change(c *chance.Chance, l []api.Op) {
	o := &l[c.Next(len(l))]
	switch c.Next(4) {
	case 0:
		o.Told.N = 1 - o.Told.N
	case 1:
		o.Told = api.Told{E: api.ErrNone}
	case 2:
		if o.Call.Kind == api.CallGet || o.Call.Kind == api.CallLookup {
			o.Told.Desc = api.Desc{Kind: api.Naive, N: o.Call.Key.N}
		}
	case 3:
		if len(o.Told.Y) > 0 {
			o.Told.Y = slices.Clone(o.Told.Y)
			o.Told.Y[0]++
		}
	}
}

// P38.3
func TestCut(t *testing.T) {
	var c chance.Chance = 11
	for range 150 {
		stripes, room := 1+c.Next(3), 1+c.Next(3)
		l := some(&c, stripes, room, 12, 1+c.Next(6))
		if hist.Check(l) != api.OK {
			continue
		}
		for at := range 26 {
			fits(t, "cut", stripes, room, hist.Cut(l, at))
		}
	}
	alone := some(&c, 2, 2, 12, 1)
	for i, at := range fits(t, "one client alone", 2, 2, alone) {
		if alone[at].Ref.At != i {
			t.Error("not in its order", i, alone[at])
		}
	}
}

// P38.2: many at one time, of few keys and little room, so that it plays a part what is ahead of what.
func TestCrowded(t *testing.T) {
	var c chance.Chance = 29
	for i := range 400 {
		stripes, room := 1+c.Next(2), 1+c.Next(3)
		l := drawn(&c, stripes, room, 12, 12, 300+c.Next(1500), []int{2, 3, 4, 5, 6, 8}, []int{1, 1, 1, 2, 2, 2, 3, 3, 4, 5, 7})
		if hist.Check(l) != api.OK {
			t.Fatal(l)
		}
		// Plans of one key differ, so that it plays a part what is known first.
		fits(t, "crowded", stripes, room, l)
		fits(t, "crowded, and cut", stripes, room, hist.Cut(l, c.Next(25)))
		if t.Failed() {
			t.Fatal(i, l)
		}
	}
}

// What is told is new memory.
func TestNew(t *testing.T) {
	l := []api.Op{get(0, 0, 96, 0, 1), get(1, 0, 80, 2, never), other(api.CallEvict, 2, 0, 80, 3, 4, api.Told{N: 1})}
	_, plans, e := Find(1, 2, l)
	for _, d := range plans {
		if len(d.Kids) > 0 {
			d.Kids[0].N = 77
		}
	}
	if e != api.OK || !desc.Same(l[0].Told.Desc, plain(96)) {
		t.Error("shared", e)
	}
}

// All at one time, and none fits: it ends soon all the same.
func TestSoon(t *testing.T) {
	for room := 1; room <= 11; room++ {
		var l []api.Op
		for i, n := range []int{2, 3, 4, 5, 6, 8, 10, 12, 15, 16} {
			l = append(l, get(i, 0, n, i, 100+i))
		}
		l = append(l, other(api.CallLookup, 50, 0, 20, 50, 150, api.Told{Desc: plain(20)}), other(api.CallEvict, 51, 0, 16, 51, 151, api.Told{N: 1}))
		from := time.Now()
		none(t, "none", 1, room, l, api.ErrNone)
		l[10] = other(api.CallLookup, 50, 0, 8, 50, 150, api.Told{E: api.ErrNone})
		l[11] = other(api.CallEvict, 51, 0, 8, 48, 49, api.Told{N: 1})
		l[5].From, l[5].To = 0, 1
		l[0].From, l[1].From = 47, 46
		Find(1, room, l)
		if time.Since(from) > 30*time.Second {
			t.Error("too long", room, time.Since(from))
		}
	}
}
