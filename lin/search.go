package lin

import (
	"slices"

	"dulcimer/api"
	"dulcimer/desc"
	"dulcimer/hist"
	"dulcimer/model"
)

// search looks for an order of calls.
type search struct {
	l     []api.Op
	must  int        // a bit for each call that has ended
	ahead []int      // of each call the bits of those that are ahead of it
	plans []api.Desc // of each call the plan with which it may be asked
	doubt map[api.Key]int
	order []int
	seen  map[spot]int  // what was looked at already: from there on nothing fits
	right map[trial]int // whether a transform was right, of each Execute that was looked at
}

// spot is which calls are done, and what is left to be seen of the state behind them.
type spot struct {
	done  int
	state string
}

// trial is an Execute, and whether its handle was released.
type trial struct {
	call int
	gone bool
}

// begin gets ready to look for an order.
func begin(l []api.Op) *search {
	s := &search{l: l, ahead: make([]int, len(l)), plans: make([]api.Desc, len(l)), seen: map[spot]int{}, right: map[trial]int{}}
	for i, o := range l {
		if o.To != never {
			s.must |= 1 << i
		}
		for j, other := range l {
			if hist.Ahead(other, o) {
				s.ahead[i] |= 1 << j
			}
		}
		s.plans[i] = planOf(l, o)
	}
	s.doubt = doubtful(l, s.plans)
	return s
}

// find looks for an order from a state on, call by call.
func (s *search) find(start model.State) bool {
	var look func(done int, now model.State) bool
	look = func(done int, now model.State) bool {
		if done&s.must == s.must {
			return true
		}
		at := spot{done: done, state: s.text(done, now)}
		if s.seen[at] > 0 || s.lost(done, now) {
			return false
		}
		s.seen[at]++
		for _, m := range s.moves(done, now) {
			s.order = append(s.order, m.call)
			if look(done|1<<m.call, m.next) {
				return true
			}
			s.order = s.order[:len(s.order)-1]
		}
		return false
	}
	return look(0, start)
}

// lost tells whether another plan is known of a key than a call that is left was told: that stays so.
func (s *search) lost(done int, now model.State) bool {
	for i, o := range s.l {
		kind := o.Call.Kind
		if done&(1<<i) != 0 || o.To == never || o.Told.E != api.OK || kind != api.CallGet && kind != api.CallLookup {
			continue
		}
		at := slices.IndexFunc(now.Known, func(x api.Entry) bool { return x.Key == o.Call.Key })
		if at >= 0 && !desc.Same(now.Known[at].Desc, o.Told.Desc) {
			return true
		}
	}
	return false
}

// move is a call that may come next, and the state behind it.
type move struct {
	call int
	next model.State
}

// moves tells what may come next: those that have ended, and then the others.
func (s *search) moves(done int, now model.State) []move {
	var ended, others []move
	for i, o := range s.l {
		if done&(1<<i) != 0 || s.ahead[i]&^done != 0 {
			continue
		}
		if o.To == never {
			// One that changes nothing need not have been.
			if next, ok := s.any(i, now); ok && !model.Same(next, now) {
				others = append(others, move{i, next})
			}
			continue
		}
		next, ok := s.step(i, now)
		if ok && model.Same(next, now) {
			// If it fits here and changes nothing, no order is lost by taking it here.
			return []move{{i, next}}
		}
		if ok {
			ended = append(ended, move{i, next})
		}
	}
	return append(ended, others...)
}

// any is model.Any, but for calls that never change anything.
func (s *search) any(i int, now model.State) (model.State, bool) {
	o := s.l[i]
	if o.Call.Kind == api.CallExecute || o.Call.Kind == api.CallExport {
		return model.State{}, false
	}
	return model.Any(now, o.Ref, o.Call, s.plans[i])
}

// step is model.Step; transforms are reckoned just once: they hang on nothing but the handle.
func (s *search) step(i int, now model.State) (model.State, bool) {
	o := s.l[i]
	if o.Call.Kind != api.CallExecute {
		return model.Step(now, o.Ref, o.Call, o.Told)
	}
	at := slices.IndexFunc(now.Open, func(h model.Open) bool { return h.Ref == o.Call.Of })
	if at < 0 {
		return model.State{}, false
	}
	known := trial{call: i, gone: now.Open[at].Gone}
	if s.right[known] == 0 {
		s.right[known] = -1
		if _, ok := model.Step(now, o.Ref, o.Call, o.Told); ok {
			s.right[known] = 1
		}
	}
	return now, s.right[known] > 0
}
