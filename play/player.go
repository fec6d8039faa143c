package play

import (
	"dulcimer/api"
	"dulcimer/dup"
	"dulcimer/duty"
	"dulcimer/service"
)

// player does the calls of all clients, and keeps what became of them.
type player struct {
	service *service.Service
	ops     []api.Op
	times   int // how many beginnings and ends there were
	handles map[api.Ref]*service.Handle
	got     []api.Ref // the calls that got handles, as they came back
	gone    map[api.Ref]int
}

// deed is what is done for a call.
type deed struct {
	do func(t *duty.Thread) api.Told
}

// call does a call, if it may be begun, from its beginning to its end.
func (p *player) call(t *duty.Thread, r api.Ref, c api.Call) {
	d, ok := p.deed(r, c)
	if !ok {
		return
	}
	at := len(p.ops)
	p.ops = append(p.ops, api.Op{Ref: r, Call: dup.Call(c), From: p.time(), To: -1})
	told := d.do(t)
	p.ops[at].Told = told
	p.ops[at].To = p.time()
}

// time tells the place of what comes now among all beginnings and ends.
func (p *player) time() int {
	p.times++
	return p.times - 1
}

// deed tells what is to be done for a call; false: it may not be begun.
func (p *player) deed(r api.Ref, c api.Call) (deed, bool) {
	var do func(t *duty.Thread) api.Told
	switch c.Kind {
	case api.CallGet:
		do = func(t *duty.Thread) api.Told { return p.obtain(r, p.service.Get, t, c.Key) }
	case api.CallLookup:
		do = func(t *duty.Thread) api.Told { return p.obtain(r, p.service.Lookup, t, c.Key) }
	case api.CallEvict:
		do = func(t *duty.Thread) api.Told { return p.evict(t, c.Key) }
	case api.CallImport:
		do = func(t *duty.Thread) api.Told {
			n, line, e := p.service.Import(t, c.Text)
			return api.Told{E: e, N: n, Line: line}
		}
	case api.CallExport:
		do = func(t *duty.Thread) api.Told {
			text, e := p.service.Export(t)
			return api.Told{E: e, Text: text}
		}
	case api.CallExecute, api.CallRelease:
		return p.ofHandle(c)
	default:
		return deed{}, false
	}
	return deed{do: do}, true
}

// ofHandle tells what is to be done with a handle, if there is one.
func (p *player) ofHandle(c api.Call) (deed, bool) {
	h := p.handles[c.Of]
	if h == nil {
		return deed{}, false
	}
	if c.Kind == api.CallExecute {
		return deed{do: func(t *duty.Thread) api.Told {
			y, e := h.Execute(t, c.X)
			return api.Told{E: e, Y: y}
		}}, true
	}
	return deed{do: func(t *duty.Thread) api.Told {
		e := h.Release(t)
		if e == api.OK {
			p.gone[c.Of]++
		}
		return api.Told{E: e}
	}}, true
}

// obtain gets a handle, and keeps it for the calls that name r.
func (p *player) obtain(r api.Ref, get func(*duty.Thread, api.Key) (*service.Handle, api.Errno), t *duty.Thread, k api.Key) api.Told {
	h, e := get(t, k)
	if e != api.OK {
		return api.Told{E: e}
	}
	p.handles[r] = h
	p.got = append(p.got, r)
	return api.Told{Desc: h.Entry().Desc}
}

func (p *player) evict(t *duty.Thread, k api.Key) api.Told {
	was, e := p.service.Evict(t, k)
	told := api.Told{E: e}
	if was {
		told.N = 1
	}
	return told
}

// report tells what became of it all.
func (p *player) report(order []int, stripes int) Report {
	store := p.service.Store()
	r := Report{Ops: p.ops, Order: order, Known: p.service.Known(), Tables: store.Names(), Dirty: store.Dirty(), Stats: p.service.Stats()}
	for _, o := range p.ops {
		if o.To == -1 {
			r.Pending++
		}
	}
	for i := range stripes {
		r.Kept = append(r.Kept, p.service.Kept(i))
	}
	for _, n := range r.Tables {
		r.Uses = append(r.Uses, store.Uses(n))
	}
	for i, ref := range p.got {
		h := p.handles[ref]
		first := i
		for j, other := range p.got[:i] {
			if service.One(p.handles[other], h) {
				first = j
				break
			}
		}
		r.Handles = append(r.Handles, Handle{Ref: ref, X: h.Entry(), Gone: p.gone[ref] > 0, Keeps: p.service.Keeps(h), First: first})
	}
	return r
}
