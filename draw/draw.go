// Package draw draws scripts for tests: any calls of a few sizes, the same ones each time.
package draw

import (
	"dulcimer/api"
	"dulcimer/chance"
	"dulcimer/play"
)

// Script tells a script of so many calls.
func Script(c *chance.Chance, calls int) play.Script {
	s := play.Script{Stripes: 1 + c.Next(3), Room: 1 + c.Next(2), Clients: make([][]api.Call, 1+c.Next(8))}
	for range calls {
		who := c.Next(len(s.Clients))
		if len(s.Clients[who]) < 16 {
			s.Clients[who] = append(s.Clients[who], call(c, len(s.Clients)))
		}
	}
	for range c.Next(300) {
		s.Picks = append(s.Picks, c.Next(19)-9)
	}
	for range 20 {
		s.Ticks = append(s.Ticks, c.Next(9)-2)
	}
	return s
}

func call(c *chance.Chance, clients int) api.Call {
	n := []int{2, 3, 4, 8}[c.Next(4)]
	x := api.Call{
		Kind: 1 + c.Next(7), Key: api.Key{N: n, Dir: c.Next(8) / 7}, Of: api.Ref{Who: c.Next(clients), At: c.Next(3)},
		Text: "dulcimer 1\n2 0 naive2\n8 0 naive8\n3 1 naive3\n",
	}
	if c.Next(3) == 0 {
		x.Kind = api.CallGet
	}
	for range n {
		x.X = append(x.X, uint64(c.Next(1000)))
	}
	return x
}
