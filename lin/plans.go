package lin

import (
	"dulcimer/api"
	"dulcimer/cand"
	"dulcimer/dtext"
	"dulcimer/entry"
	"dulcimer/wisdom"
)

// planOf tells the plan with which a call may be asked: just a Get has one.
func planOf(l []api.Op, o api.Op) api.Desc {
	switch {
	case o.Call.Kind != api.CallGet:
		return api.Desc{}
	case o.To != never:
		return o.Told.Desc
	}
	// What was told of a key once is what is known of it for good; so a Get that was told nothing took that.
	for _, other := range l {
		if d, ok := told(other, o.Call.Key); ok {
			return d
		}
	}
	return longest(o.Call.Key.N)
}

// told tells the plan for k that a call was told of.
func told(o api.Op, k api.Key) (api.Desc, bool) {
	if o.To == never || o.Told.E != api.OK {
		return api.Desc{}, false
	}
	switch o.Call.Kind {
	case api.CallGet, api.CallLookup:
		x := api.Entry{Key: k, Desc: o.Told.Desc}
		return o.Told.Desc, o.Call.Key == k && entry.Check(x) == api.OK
	case api.CallExport:
		known, _, _ := wisdom.Parse(o.Told.Text)
		for _, x := range known {
			if x.Key == k {
				return x.Desc, true
			}
		}
	}
	return api.Desc{}, false
}

// longest tells the plan with the longest text: if nobody was told of it, all that is seen of it is that an Export may have had no room.
func longest(n int) api.Desc {
	l, _ := cand.List(n)
	var best api.Desc
	most := 0
	for _, d := range l {
		if s, _ := dtext.Print(d); len(s) > most {
			best, most = d, len(s)
		}
	}
	return best
}
