package exec

import (
	"dulcimer/api"
	"dulcimer/gen"
	"dulcimer/gold"
	"dulcimer/perm"
	"dulcimer/small"
	"dulcimer/stock"
	"dulcimer/vec"
)

// worker does nodes of plans, and has all tables that they need.
type worker struct{ tables map[api.Name][]uint64 }

// way does a node: from reduced numbers it tells as many, of new memory.
type way func(w worker, d api.Desc, dir int, x []uint64) []uint64

// by tells how nodes of a kind are done.
func by(kind int) way {
	switch kind {
	case api.Small:
		return worker.small
	case api.Stock:
		return worker.stock
	case api.Split:
		return worker.split
	case api.Good:
		return worker.good
	case api.Rader:
		return worker.rader
	case api.Blue:
		return worker.blue
	}
	return worker.naive
}

func (w worker) run(d api.Desc, dir int, x []uint64) []uint64 {
	return by(d.Kind)(w, d, dir, x)
}

func (w worker) powers(n, dir int) []uint64 {
	return w.tables[api.Name{Kind: api.TabPowers, N: n, Dir: dir}]
}

func (w worker) naive(d api.Desc, dir int, x []uint64) []uint64 {
	powers := w.powers(d.N, dir)
	y := make([]uint64, len(x))
	for k := range y {
		for j, a := range x {
			y[k] = gold.Add(y[k], gold.Mul(a, powers[j*k%len(x)]))
		}
	}
	return y
}

func (w worker) small(d api.Desc, dir int, x []uint64) []uint64 {
	y, _ := small.Do(x, dir)
	return y
}

func (w worker) stock(d api.Desc, dir int, x []uint64) []uint64 {
	y, _ := stock.With(x, w.powers(d.N, dir))
	return y
}

// split counts places of x in b's first, those of what it tells in a's.
func (w worker) split(d api.Desc, dir int, x []uint64) []uint64 {
	a, b := d.Kids[0].N, d.Kids[1].N
	powers := w.powers(d.N, dir)
	grid := w.columns(d.Kids[0], dir, x, b)
	for i := range a {
		for j := range b {
			grid[i*b+j] = gold.Mul(grid[i*b+j], powers[i*j])
		}
	}
	grid = w.rows(d.Kids[1], dir, grid)
	y := make([]uint64, len(x))
	for i := range a {
		for j := range b {
			y[i+a*j] = grid[i*b+j]
		}
	}
	return y
}

// good moves numbers so that nothing is left to be done between rows and columns.
func (w worker) good(d api.Desc, dir int, x []uint64) []uint64 {
	a, b := d.Kids[0].N, d.Kids[1].N
	in, _ := perm.Good(a, b)
	out, _ := perm.Crt(a, b)
	grid, _ := perm.Apply(in, x)
	grid = w.rows(d.Kids[1], dir, w.columns(d.Kids[0], dir, grid, b))
	y := make([]uint64, len(x))
	for i, to := range out {
		y[to] = grid[i]
	}
	return y
}

// rows transforms each piece of the kid's size, in its place.
func (w worker) rows(kid api.Desc, dir int, x []uint64) []uint64 {
	y := make([]uint64, 0, len(x))
	for i := 0; i < len(x); i += kid.N {
		y = append(y, w.run(kid, dir, x[i:i+kid.N])...)
	}
	return y
}

// columns transforms what stands b places apart, in its places.
func (w worker) columns(kid api.Desc, dir int, x []uint64, b int) []uint64 {
	y := make([]uint64, len(x))
	column := make([]uint64, kid.N)
	for j := range b {
		for i := range column {
			column[i] = x[i*b+j]
		}
		for i, a := range w.run(kid, dir, column) {
			y[i*b+j] = a
		}
	}
	return y
}

// rader goes through places by the powers of a generator, which makes the sum a product around.
func (w worker) rader(d api.Desc, dir int, x []uint64) []uint64 {
	places, _ := gen.Powers(d.N)
	n := len(places)
	moved := make([]uint64, n)
	for i, at := range places {
		moved[i] = x[at]
	}
	around := w.around(d.Kids[0], moved, w.tables[api.Name{Kind: api.TabRader, N: d.N, Dir: dir}])
	y := make([]uint64, d.N)
	y[0] = gold.Sum(x...)
	for i, a := range around {
		y[places[(n-i)%n]] = gold.Add(x[0], a)
	}
	return y
}

// blue takes j times k for three triangular numbers, which makes the sum a product around.
func (w worker) blue(d api.Desc, dir int, x []uint64) []uint64 {
	n, m := d.N, d.Kids[0].N
	chirp := w.tables[api.Name{Kind: api.TabChirp, N: n, Dir: dir}]
	fore := make([]uint64, m)
	for j, a := range x {
		fore[n-1-j] = gold.Mul(a, chirp[j])
	}
	around := w.around(d.Kids[0], fore, w.tables[api.Name{Kind: api.TabBlue, N: n, M: m, Dir: dir}])
	y := make([]uint64, n)
	for k := range y {
		y[k] = gold.Mul(around[n-1+k], chirp[k])
	}
	return y
}

// around tells the product around of x and that row of which l is the transform.
func (w worker) around(kid api.Desc, x, l []uint64) []uint64 {
	product, _ := vec.Mul(w.run(kid, 0, x), l)
	// There twice is the length times the numbers backwards: so it comes back without the other direction.
	return vec.Scale(vec.Rev(w.run(kid, 0, product)), gold.Inv(uint64(len(x))))
}
