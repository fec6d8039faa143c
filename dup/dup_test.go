package dup

import (
	"testing"

	"dulcimer/api"
)

func TestNew(t *testing.T) {
	d := api.Desc{Kind: 4, N: 4, Kids: []api.Desc{{Kind: 2, N: 2}, {Kind: 2, N: 2}}}
	o := api.Op{Ref: api.Ref{Who: 1, At: 2}, Call: api.Call{Kind: 6, Key: api.Key{N: 4}, Text: "x", X: []uint64{1, 2}}, Told: api.Told{E: 1, Desc: d, N: 2, Line: 3, Text: "y", Y: []uint64{3}}, From: 4, To: 5}
	c := Each([]api.Op{o}, Op)[0]
	if c.Ref != o.Ref || c.From != 4 || c.To != 5 || c.Call.Text != "x" || c.Call.Kind != 6 || c.Told.E != 1 || c.Told.N != 2 || c.Told.Line != 3 || c.Told.Text != "y" || c.Call.X[1] != 2 || c.Told.Y[0] != 3 || c.Told.Desc.Kids[1].N != 2 {
		t.Error(c)
	}
	c.Call.X[0], c.Told.Y[0], c.Told.Desc.Kids[0].N = 9, 9, 9
	x := Entry(api.Entry{Key: api.Key{N: 4}, Desc: d})
	x.Desc.Kids[1].N = 9
	if o.Call.X[0] != 1 || o.Told.Y[0] != 3 || d.Kids[0].N != 2 || d.Kids[1].N != 2 || x.Key.N != 4 {
		t.Error("shared")
	}
}
