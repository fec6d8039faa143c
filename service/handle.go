package service

import (
	"dulcimer/api"
	"dulcimer/duty"
	"dulcimer/plan"
)

// Handle is what a client has of a plan.
type Handle struct {
	plan     *plan.Plan
	released bool
	running  int // how many Executes are under way
}

// Execute tells the transform of x.
func (h *Handle) Execute(t *duty.Thread, x []uint64) ([]uint64, api.Errno) {
	switch {
	case h == nil || t == nil:
		return nil, api.ErrNil
	case h.released:
		return nil, api.ErrReleased
	case len(x) != h.plan.Key().N:
		return nil, api.ErrLen
	}
	// No turn passes between the looks and the count: so the handle's use stays till this is done, whoever releases it meanwhile.
	h.running++
	y, e := h.plan.Run(t, x)
	h.running--
	h.settle(t)
	return y, e
}

// Release gives the handle's use of its plan back.
func (h *Handle) Release(t *duty.Thread) api.Errno {
	if h == nil || t == nil {
		return api.ErrNil
	}
	if h.released {
		return api.ErrReleased
	}
	h.released = true
	h.settle(t)
	return api.OK
}

// settle drops the use, once it is released and nothing runs by it: that is so but once.
func (h *Handle) settle(t *duty.Thread) {
	if h.released && h.running == 0 {
		h.plan.Drop(t)
	}
}

// Entry tells the key, and the Desc of its plan.
func (h *Handle) Entry() api.Entry {
	if h == nil {
		return api.Entry{}
	}
	return api.Entry{Key: h.plan.Key(), Desc: h.plan.Desc()}
}
