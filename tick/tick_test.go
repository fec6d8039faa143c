package tick

import (
	"math"
	"slices"
	"testing"
)

func ask(s *Script, n int) []int {
	var l []int
	for range n {
		l = append(l, s.Now())
	}
	return l
}

// P20.1
func TestScript(t *testing.T) {
	if l := ask(New([]int{5, 7}), 4); !slices.Equal(l, []int{5, 12, 12, 12}) {
		t.Error("the chapter's example", l)
	}
	if l := ask(New([]int{3, -9, 0, 1, math.MinInt, 2}), 7); !slices.Equal(l, []int{3, 3, 3, 4, 4, 6, 6}) {
		t.Error(l)
	}
	if l := ask(New([]int{1, math.MaxInt, 5}), 3); !slices.Equal(l, []int{1, 1 << 60, 1 << 60}) {
		t.Error(l)
	}
	if l := ask(New([]int{1<<60 - 1, 1, 1}), 3); !slices.Equal(l, []int{1<<60 - 1, 1 << 60, 1 << 60}) {
		t.Error(l)
	}
	s := New(nil)
	if s.Asked() != 0 || s.Now() != 0 || s.Asked() != 1 || s.Now() != 0 || s.Asked() != 2 {
		t.Error("Asked")
	}
	var none *Script
	if none.Now() != 0 || none.Asked() != 0 {
		t.Error("nil")
	}
	l := []int{1, 2}
	s = New(l)
	l[0] = 50
	if got := ask(s, 2); !slices.Equal(got, []int{1, 3}) {
		t.Error("kept", got)
	}
}

// other is a clock of somebody else's.
type other struct {
	l     []int
	asked int
}

func (o *other) Now() int {
	o.asked++
	return o.l[o.asked-1]
}

// P20.2
func TestLap(t *testing.T) {
	for _, c := range []struct{ from, to, want int }{
		{3, 10, 7}, {10, 10, 0}, {10, 3, 0}, {-5, 5, 10}, {0, 1 << 60, 1 << 60}, {0, 1<<60 + 1, 1 << 60}, {-1, 1 << 60, 1 << 60}, {math.MinInt, math.MaxInt, 1 << 60}, {math.MaxInt, math.MinInt, 0}, {-5, -2, 3}, {-1 << 62, 1 << 62, 1 << 60},
	} {
		o, called := &other{l: []int{c.from, c.to}}, 0
		if got := Lap(o, func() {
			called++
			if o.asked != 1 {
				t.Error("asked", o.asked)
			}
		}); got != c.want || called != 1 || o.asked != 2 {
			t.Error(c, got, called, o.asked)
		}
		o.asked = 0
		if got := Lap(o, nil); got != c.want || o.asked != 2 {
			t.Error(c, got)
		}
	}
	called := 0
	if Lap(nil, func() { called++ }) != 0 || called != 1 || Lap(nil, nil) != 0 {
		t.Error("no clock")
	}
	var none *Script
	if Lap(none, func() { called++ }) != 0 || called != 2 {
		t.Error("nil clock")
	}
}

// P20.3
func TestLaps(t *testing.T) {
	s, sum := New([]int{4, 2, -7, 9, 1, 3}), 0
	for range 5 {
		sum += Lap(s, nil)
	}
	if sum > 4+2+9+1+3 || sum != 2+9+3 || s.Asked() != 10 {
		t.Error(sum)
	}
}
