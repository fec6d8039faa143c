package desc

import (
	"math"
	"testing"

	"dulcimer/api"
)

func leaf(kind, n int) api.Desc { return api.Desc{Kind: kind, N: n} }

func node(kind, n int, kids ...api.Desc) api.Desc { return api.Desc{Kind: kind, N: n, Kids: kids} }

func six() api.Desc { return node(api.Split, 6, leaf(api.Small, 2), leaf(api.Small, 3)) }

// trees are some, each ahead of those behind it.
func trees() []api.Desc {
	return []api.Desc{
		leaf(math.MinInt, 0), leaf(-1, 5), leaf(0, math.MinInt), leaf(0, 0), leaf(0, math.MaxInt), leaf(1, 0),
		leaf(4, 6), node(4, 6, leaf(1, 2)), node(4, 6, leaf(9, 9)), node(4, 6, leaf(0, 0), leaf(0, 0)),
		node(4, 6, leaf(2, 2), leaf(2, 2)), node(4, 6, leaf(2, 2), leaf(2, 3)), node(4, 6, leaf(2, 2), node(2, 3, leaf(0, 0))),
		node(4, 6, leaf(2, 3), leaf(2, 0)), node(4, 6, node(2, 3, leaf(0, 0)), leaf(2, 0)), node(4, 7), node(4, 8), node(5, 1, six(), six()), node(5, 1, six(), node(5, 1, six())),
	}
}

// P13.1
func TestCount(t *testing.T) {
	if Nodes(six()) != 3 || Depth(six()) != 2 || Nodes(api.Desc{}) != 1 || Depth(api.Desc{}) != 1 {
		t.Error("the chapter's example")
	}
	d := node(1, 1, six(), leaf(1, 1), node(1, 1, node(1, 1, six())))
	if Nodes(d) != 10 || Depth(d) != 5 {
		t.Error(Nodes(d), Depth(d))
	}
	deep := leaf(1, 1)
	for range 1<<16 - 1 {
		deep = node(1, 1, deep)
	}
	if Nodes(deep) != 1<<16 || Depth(deep) != 1<<16 || !Same(deep, Clone(deep)) {
		t.Error("deep")
	}
}

// P13.1, P13.3
func TestCmp(t *testing.T) {
	for i, a := range trees() {
		for j, b := range trees() {
			want := 0
			if i < j {
				want = -1
			} else if i > j {
				want = 1
			}
			if Cmp(a, b) != want || Same(a, b) != (i == j) {
				t.Error("Cmp", a, b, Cmp(a, b))
			}
		}
		if !Same(a, Clone(a)) {
			t.Error("Clone", a)
		}
	}
	if !Same(api.Desc{Kids: []api.Desc{}}, api.Desc{}) {
		t.Error("empty and nil")
	}
	d := six()
	c := Clone(d)
	c.Kids[0].N = 9
	c = append(c.Kids[:1], leaf(7, 7))[0]
	if !Same(d, six()) {
		t.Error("Clone shares")
	}
}

// P13.2, P13.3
func TestAll(t *testing.T) {
	for _, d := range trees() {
		var paths func(d api.Desc, path []int) [][]int
		paths = func(d api.Desc, path []int) [][]int {
			l := [][]int{path}
			for i, k := range d.Kids {
				l = append(l, paths(k, append(append([]int{}, path...), i))...)
			}
			return l
		}
		all := paths(d, nil)
		i := 0
		for x := range All(d) {
			at, ok := At(d, all[i])
			if !ok || !Same(at, x) {
				t.Error("All", d, i)
			}
			i++
		}
		if i != Nodes(d) {
			t.Error("All tells", i, d)
		}
		for most := 1; most <= i; most++ {
			n := 0
			for range All(d) {
				n++
				if n == most {
					break
				}
			}
			if n != most {
				t.Error("as long as it is asked for")
			}
		}
	}
	d := six()
	seq := All(d)
	for x := range seq {
		if len(x.Kids) > 0 {
			x.Kids[0].N = 77
		}
	}
	if !Same(d, six()) {
		t.Error("All shares")
	}
	d.Kids[0].N = 78
	n := 0
	for x := range seq {
		if n++; x.N > 6 {
			t.Error("All keeps what it is handed", x)
		}
	}
	if n != 3 {
		t.Error("a second time", n)
	}
}

// P13.2, P13.3
func TestAtPut(t *testing.T) {
	if d, ok := At(six(), []int{1}); !ok || !Same(d, leaf(api.Small, 3)) {
		t.Error("the chapter's example")
	}
	d := node(5, 1, six(), leaf(1, 1), six())
	for _, path := range [][]int{{-1}, {3}, {0, 2}, {1, 0}, {0, 0, 0}, {math.MinInt}, {math.MaxInt}} {
		x, ok := At(d, path)
		y, put := Put(d, path, six())
		if ok || put || !Same(x, api.Desc{}) || !Same(y, api.Desc{}) {
			t.Error(path)
		}
	}
	keep := Clone(d)
	for _, path := range [][]int{nil, {0}, {1}, {2, 1}, {0, 0}} {
		with := node(3, 3, leaf(8, 8))
		x, ok := Put(d, path, with)
		at, there := At(x, path)
		if !ok || !there || !Same(at, with) || !Same(d, keep) {
			t.Error("Put", path)
		}
		at.Kids[0].N = 1
		with.Kids[0].N = 2
		if again, _ := At(x, path); again.Kids[0].N != 8 {
			t.Error("Put shares", path)
		}
		if len(path) > 0 && (x.Kind != 5 || len(x.Kids) != 3) {
			t.Error("Put", x)
		}
	}
}
