package table

import (
	"slices"
	"testing"

	"dulcimer/api"
	"dulcimer/chirp"
	"dulcimer/dft"
	"dulcimer/gen"
	"dulcimer/gold"
	"dulcimer/need"
	"dulcimer/root"
)

func name(kind, n, m, dir int) api.Name { return api.Name{Kind: kind, N: n, M: m, Dir: dir} }

func names() []api.Name {
	var l []api.Name
	for dir := range 2 {
		for _, n := range root.Sizes(64) {
			l = append(l, name(api.TabPowers, n, 0, dir), name(api.TabChirp, n, 0, dir), name(api.TabRader, n, 0, dir), name(api.TabBlue, n, 64, dir), name(api.TabBlue, n, 128, dir))
		}
		l = append(l, name(api.TabRader, 257, 0, dir))
	}
	return slices.DeleteFunc(l, func(t api.Name) bool { return !need.Right(t) })
}

// want tells a table by the chapter's words.
func want(t api.Name) []uint64 {
	w, _ := root.Root(t.N)
	if t.Dir == 1 {
		w = gold.Inv(w)
	}
	var l []uint64
	switch t.Kind {
	case api.TabPowers:
		for i := range t.N {
			l = append(l, gold.Pow(w, uint64(i)))
		}
	case api.TabChirp:
		for i := range t.N {
			l = append(l, gold.Inv(gold.Pow(w, uint64(i*(i-1)/2))))
		}
	case api.TabRader:
		g, _ := gen.Gen(t.N)
		for i := range t.N - 1 {
			p := 1
			for range (t.N - 1 - i) % (t.N - 1) {
				p = p * g % t.N
			}
			l = append(l, gold.Pow(w, uint64(p)))
		}
		l, _ = dft.Dft(l, 0)
	case api.TabBlue:
		k, _ := chirp.Kernel(t.N, t.M, t.Dir)
		l, _ = dft.Dft(k, 0)
	}
	return l
}

// P16.1, P16.3
func TestMake(t *testing.T) {
	if l, e := Make(name(api.TabPowers, 2, 0, 0)); e != api.OK || !slices.Equal(l, []uint64{1, api.P - 1}) {
		t.Error("the chapter's example", l, e)
	}
	for _, n := range names() {
		l, e := Make(n)
		if e != api.OK || len(l) != need.Room(n) || !slices.Equal(l, want(n)) {
			t.Error("Make", n, e)
		}
		if Clean(l) {
			t.Error("Clean", n)
		}
		room := make([]uint64, len(l))
		if e := Fill(n, room); e != api.OK || !slices.Equal(room, l) {
			t.Error("Fill", n, e)
		}
	}
	for _, n := range []api.Name{{}, name(1, 7, 0, 0), name(3, 2, 0, 0), name(4, 3, 4, 0), name(9, 8, 0, 0)} {
		room := []uint64{5, 6}
		l, e := Make(n)
		if f := Fill(n, room); len(l) != 0 || e != api.ErrArg || f != api.ErrArg || room[0] != 5 || room[1] != 6 {
			t.Error("no name", n, e)
		}
	}
}

// P16.2
func TestRoom(t *testing.T) {
	for _, n := range []int{0, 7, 9} {
		room := make([]uint64, n, 20)
		if e := Fill(name(api.TabPowers, 8, 0, 0), room); e != api.ErrLen || !Clean(room) {
			t.Error("Fill", n, e)
		}
	}
	room := []uint64{1, 2, 3}
	l := Clear(room)
	if !slices.Equal(l, []uint64{0, 0, 0}) || room[0] != 1 || len(Clear(nil)) != 0 {
		t.Error("Clear", l, room)
	}
	if !Clean(nil) || !Clean(l) || Clean(room) || Clean([]uint64{0, 0, 1}) || Clean([]uint64{api.P}) {
		t.Error("Clean")
	}
}
