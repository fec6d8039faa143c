// Package dup copies what calls ask and tell, so that no lists are shared.
package dup

import (
	"slices"

	"dulcimer/api"
	"dulcimer/desc"
)

// Entry tells the same entry, of new memory.
func Entry(x api.Entry) api.Entry {
	x.Desc = desc.Clone(x.Desc)
	return x
}

// Call tells the same call, of new memory.
func Call(c api.Call) api.Call {
	c.X = slices.Clone(c.X)
	return c
}

// Told tells the same, of new memory.
func Told(t api.Told) api.Told {
	t.Desc = desc.Clone(t.Desc)
	t.Y = slices.Clone(t.Y)
	return t
}

// Op tells the same, of new memory.
func Op(o api.Op) api.Op {
	o.Call = Call(o.Call)
	o.Told = Told(o.Told)
	return o
}

// Each tells what f makes of each of l.
func Each[T any](l []T, f func(T) T) []T {
	own := make([]T, len(l))
	for i, x := range l {
		own[i] = f(x)
	}
	return own
}
