package model

import (
	"slices"

	"dulcimer/api"
	"dulcimer/desc"
	"dulcimer/dup"
	"dulcimer/entry"
	"dulcimer/wisdom"
)

// Same tells whether all parts of two states are the same.
func Same(a, b State) bool {
	return a.Room == b.Room &&
		slices.EqualFunc(a.Known, b.Known, entry.Same) &&
		slices.EqualFunc(a.Kept, b.Kept, func(x, y []api.Key) bool { return slices.Equal(x, y) }) &&
		slices.EqualFunc(a.Open, b.Open, func(x, y Open) bool {
			return x.Ref == y.Ref && x.Gone == y.Gone && entry.Same(x.X, y.X)
		})
}

// Alike tells whether all that both tell is the same.
func Alike(a, b api.Told) bool {
	return a.E == b.E && a.N == b.N && a.Line == b.Line && a.Text == b.Text && desc.Same(a.Desc, b.Desc) && slices.Equal(a.Y, b.Y)
}

// clone tells the same state, of new memory.
func clone(s State) State {
	return State{
		Room:  s.Room,
		Known: dup.Each(s.Known, dup.Entry),
		Kept:  dup.Each(s.Kept, func(row []api.Key) []api.Key { return slices.Clone(row) }),
		Open: dup.Each(s.Open, func(o Open) Open {
			o.X = dup.Entry(o.X)
			return o
		}),
	}
}

// place tells which stripe has k; -1: there are none.
func place(s State, k api.Key) int {
	n := len(s.Kept)
	if n == 0 {
		return -1
	}
	return ((2*k.N+k.Dir)%n + n) % n
}

// stripe makes something else of the row of k's stripe.
func (s *State) stripe(k api.Key, do func(row []api.Key) []api.Key) {
	if i := place(*s, k); i >= 0 {
		s.Kept[i] = do(s.Kept[i])
	}
}

func without(row []api.Key, k api.Key) []api.Key {
	return slices.DeleteFunc(row, func(other api.Key) bool { return other == k })
}

func kept(s State, k api.Key) bool {
	i := place(s, k)
	return i >= 0 && slices.Contains(s.Kept[i], k)
}

// known tells what is known of k.
func known(s State, k api.Key) (api.Desc, bool) {
	for _, x := range s.Known {
		if x.Key == k {
			return x.Desc, true
		}
	}
	return api.Desc{}, false
}

// planned tells what is known of k, or d.
func planned(s State, k api.Key, d api.Desc) api.Desc {
	if now, ok := known(s, k); ok {
		return now
	}
	return d
}

// unknown tells the entries of a text whose keys are not known.
func unknown(s State, text string) []api.Entry {
	l, _, _ := wisdom.Parse(text)
	have := map[api.Key]int{}
	for _, x := range s.Known {
		have[x.Key]++
	}
	return slices.DeleteFunc(l, func(x api.Entry) bool { return have[x.Key] > 0 })
}

// opened tells the handle of r, that is open, or was.
func opened(s State, r api.Ref) (Open, bool) {
	for _, o := range s.Open {
		if o.Ref == r {
			return o, true
		}
	}
	return Open{}, false
}
