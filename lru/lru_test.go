package lru

import (
	"math"
	"slices"
	"testing"

	"dulcimer/api"
	"dulcimer/chance"
)

func is(t *testing.T, what string, v string, ok bool, want string, wanted bool) {
	t.Helper()
	if v != want || ok != wanted {
		t.Error(what, v, ok)
	}
}

func of(room int) *List[int, string] {
	l, _ := New[int, string](room)
	return l
}

// P32.1, P32.2, P32.3
func TestList(t *testing.T) {
	l := of(2)
	v, ok := l.Put(1, "one")
	is(t, "Put 1", v, ok, "", false)
	v, ok = l.Put(2, "two")
	is(t, "Put 2", v, ok, "", false)
	v, ok = l.Get(1)
	is(t, "Get 1", v, ok, "one", true)
	v, ok = l.Put(3, "three")
	is(t, "the chapter's example", v, ok, "two", true)
	if !slices.Equal(l.Keys(), []int{3, 1}) || l.Len() != 2 || l.Room() != 2 {
		t.Error(l.Keys(), l.Len(), l.Room())
	}
	v, ok = l.Peek(1)
	is(t, "Peek", v, ok, "one", true)
	v, ok = l.Peek(2)
	is(t, "Peek of none", v, ok, "", false)
	v, ok = l.Get(2)
	is(t, "Get of none", v, ok, "", false)
	if !slices.Equal(l.Keys(), []int{3, 1}) {
		t.Error("Peek moves", l.Keys())
	}
	v, ok = l.Put(1, "ONE")
	is(t, "Put of one that is there", v, ok, "one", true)
	if !slices.Equal(l.Keys(), []int{1, 3}) {
		t.Error("to the front", l.Keys())
	}
	v, ok = l.Del(1)
	is(t, "Del", v, ok, "ONE", true)
	v, ok = l.Del(1)
	is(t, "Del again", v, ok, "", false)
	if !slices.Equal(l.Keys(), []int{3}) || l.Len() != 1 {
		t.Error(l.Keys())
	}
	l.Keys()[0] = 77
	if !slices.Equal(l.Keys(), []int{3}) {
		t.Error("Keys shares")
	}
}

func TestNew(t *testing.T) {
	for _, room := range []int{0, -1, 65, math.MaxInt, math.MinInt} {
		if l, e := New[string, int](room); l != nil || e != api.ErrArg {
			t.Error(room, e)
		}
	}
	for _, room := range []int{1, 64} {
		l, e := New[string, int](room)
		if e != api.OK || l.Room() != room || l.Len() != 0 || len(l.Keys()) != 0 {
			t.Error(room, e)
		}
	}
	var none *List[int, string]
	v, ok := none.Get(1)
	is(t, "Get", v, ok, "", false)
	v, ok = none.Peek(1)
	is(t, "Peek", v, ok, "", false)
	v, ok = none.Put(1, "one")
	is(t, "Put", v, ok, "", false)
	v, ok = none.Del(1)
	is(t, "Del", v, ok, "", false)
	if len(none.Keys()) != 0 || none.Len() != 0 || none.Room() != 0 {
		t.Error("nil")
	}
}

// P32.4: held against a row that is gone through.
func TestAgainstRow(t *testing.T) {
	for _, room := range []int{1, 2, 5, 64} {
		l := of(room)
		var keys []int
		ch := chance.Chance(room)
		for range 5000 {
			k, what := ch.Next(room+3), ch.Next(4)
			i := slices.Index(keys, k)
			there := i >= 0
			var ok bool
			switch what {
			case 0:
				_, ok = l.Get(k)
			case 1:
				_, ok = l.Peek(k)
			case 2:
				_, ok = l.Del(k)
			case 3:
				_, ok = l.Put(k, "x")
				there = there || len(keys) == room
			}
			if there != ok {
				t.Fatal(room, k, what, ok)
			}
			if i >= 0 && what != 1 {
				keys = slices.Delete(keys, i, i+1)
			}
			if i >= 0 && what == 0 || what == 3 {
				keys = slices.Insert(keys, 0, k)
			}
			keys = keys[:min(len(keys), room)]
			if !slices.Equal(l.Keys(), keys) || l.Len() != len(keys) {
				t.Fatal(room, l.Keys(), keys)
			}
		}
	}
}

// P32.4: there are never more than room says, also of keys that are not themselves.
func TestOddKeys(t *testing.T) {
	l, _ := New[float64, int](2)
	for i := range 5 {
		l.Put(math.NaN(), i)
	}
	if l.Len() != 2 || len(l.things) != 0 {
		t.Error(l.Len(), len(l.things))
	}
	if v, ok := l.Get(math.NaN()); v != 0 || ok {
		t.Error(v, ok)
	}
	m, _ := New[any, int](2)
	m.Put(1, 1)
	m.Put([]int{1}, 2)
	if v, ok := m.Get([]int{1}); v != 0 || ok || m.Len() != 2 {
		t.Error(v, ok)
	}
	if v, ok := m.Put("x", 3); v != 1 || !ok {
		t.Error(v, ok)
	}
	if v, ok := m.Put("y", 4); v != 2 || !ok {
		t.Error(v, ok)
	}
}
