package bulk

import (
	"testing"

	"dulcimer/api"
	"dulcimer/desc"
)

func chain(depth int) api.Desc {
	d := api.Desc{}
	for range depth - 1 {
		d = api.Desc{Kids: []api.Desc{d}}
	}
	return d
}

func TestBig(t *testing.T) {
	for n := 1; n < 70; n++ {
		wide := api.Desc{Kids: make([]api.Desc, n-1)}
		for _, d := range []api.Desc{wide, chain(n)} {
			if Big(d) != (desc.Nodes(d) > api.MaxNodes || desc.Depth(d) > api.MaxDepth) {
				t.Error(n, Big(d))
			}
		}
	}
	doubled := api.Desc{}
	for range 60 {
		doubled = api.Desc{Kids: []api.Desc{doubled, doubled}}
	}
	if !Big(doubled) {
		t.Error("doubled")
	}
}
