package wmap

import (
	"slices"
	"testing"

	"dulcimer/api"
	"dulcimer/desc"
	"dulcimer/entry"
)

func of(n, dir, kind int) api.Entry {
	return api.Entry{Key: api.Key{N: n, Dir: dir}, Desc: api.Desc{Kind: kind, N: n}}
}

func split() api.Entry {
	x := of(6, 0, api.Split)
	x.Desc.Kids = []api.Desc{of(2, 0, api.Small).Desc, of(3, 0, api.Small).Desc}
	return x
}

// P26.1
func TestPut(t *testing.T) {
	m := New()
	if d, ok := m.Get(api.Key{N: 8}); ok || !desc.Same(d, api.Desc{}) || m.Len() != 0 || len(m.Entries()) != 0 {
		t.Error("New")
	}
	for i, want := range []bool{true, false} {
		x := []api.Entry{of(8, 0, api.Naive), of(8, 0, api.Stock)}[i]
		if ok, e := m.Put(x); ok != want || e != api.OK {
			t.Error("the chapter's example", i, ok, e)
		}
	}
	if d, ok := m.Get(api.Key{N: 8}); !ok || !desc.Same(d, of(8, 0, api.Naive).Desc) {
		t.Error("the chapter's example", d, ok)
	}
	if _, ok := m.Get(api.Key{N: 8, Dir: 1}); ok || m.Len() != 1 {
		t.Error("another direction")
	}
	for _, c := range []struct {
		x api.Entry
		e api.Errno
	}{{api.Entry{}, api.ErrSize}, {of(8, 2, 3), api.ErrArg}, {of(8, 0, 2), api.ErrDesc}, {of(4, 1, 9), api.ErrDesc}} {
		if ok, e := m.Put(c.x); ok || e != c.e || m.Len() != 1 {
			t.Error(c, ok, e)
		}
	}
}

// P26.1: what is handed in is copied, and what is told is new memory.
func TestCopies(t *testing.T) {
	m, x := New(), split()
	m.Put(x)
	x.Desc.Kids[0].N = 50
	d, _ := m.Get(api.Key{N: 6})
	if !desc.Same(d, split().Desc) {
		t.Error("kept")
	}
	d.Kids[0].N = 51
	m.Entries()[0].Desc.Kids[0].N = 52
	if d, _ = m.Get(api.Key{N: 6}); !desc.Same(d, split().Desc) {
		t.Error("told")
	}
	y := split()
	m = New()
	m.Merge([]api.Entry{y})
	y.Desc.Kids[1].Kind = 9
	if d, _ = m.Get(api.Key{N: 6}); !desc.Same(d, split().Desc) {
		t.Error("merged")
	}
}

// P26.2, P26.3
func TestMerge(t *testing.T) {
	m := New()
	m.Put(of(8, 1, api.Naive))
	l := []api.Entry{of(16, 0, api.Stock), of(8, 1, api.Stock), of(2, 1, api.Small), of(16, 0, api.Naive), split()}
	if n, e := m.Merge(l); n != 3 || e != api.OK || m.Len() != 4 {
		t.Error(n, e)
	}
	want := []api.Entry{of(2, 1, api.Small), split(), of(8, 1, api.Naive), of(16, 0, api.Stock)}
	if !slices.EqualFunc(m.Entries(), want, entry.Same) {
		t.Error(m.Entries())
	}
	for _, c := range []struct {
		l []api.Entry
		e api.Errno
	}{{[]api.Entry{of(32, 0, api.Stock), of(7, 0, 1), of(8, 2, 3)}, api.ErrSize}, {[]api.Entry{of(32, 0, api.Stock), of(8, 0, 2), of(7, 0, 1)}, api.ErrDesc}} {
		if n, e := m.Merge(c.l); n != 0 || e != c.e || m.Len() != 4 {
			t.Error(c, n, e)
		}
	}
	other := New()
	if n, e := other.Merge(m.Entries()); n != 4 || e != api.OK || !slices.EqualFunc(other.Entries(), want, entry.Same) {
		t.Error(n, e)
	}
	if n, e := m.Merge(nil); n != 0 || e != api.OK {
		t.Error(n, e)
	}
}

func TestNil(t *testing.T) {
	var m *Map
	ok, e1 := m.Put(of(8, 0, 3))
	d, there := m.Get(api.Key{N: 8})
	n, e2 := m.Merge(nil)
	if ok || e1 != api.ErrNil || there || !desc.Same(d, api.Desc{}) || n != 0 || e2 != api.ErrNil || len(m.Entries()) != 0 || m.Len() != 0 {
		t.Error("nil")
	}
}
