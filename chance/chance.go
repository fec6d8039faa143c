// Package chance draws numbers for tests: the same ones each time.
package chance

import "dulcimer/api"

// Chance tells numbers one after another, from its own value on.
type Chance uint64

// Next tells a number from 0 to n less 1.
func (c *Chance) Next(n int) int { return int(c.word()>>33) % n }

func (c *Chance) word() uint64 {
	*c = *c*6364136223846793005 + 1442695040888963407
	return uint64(*c)
}

// Row tells n words: most are great ones, and each third one is no number of the field, but counts as one.
func Row(n int, seed uint64) []uint64 {
	c := Chance(seed)
	l := make([]uint64, n)
	for i := range l {
		l[i] = c.word() | 1<<63
		if i%3 == 0 {
			l[i] = api.P + l[i]%(1<<32-1)
		}
	}
	return l
}

// Picks tells n numbers from 0 to most less 1.
func (c *Chance) Picks(n, most int) []int {
	l := make([]int, n)
	for i := range l {
		l[i] = c.Next(most)
	}
	return l
}
