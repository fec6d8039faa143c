package lin

import (
	"slices"
	"strconv"
	"strings"

	"dulcimer/api"
	"dulcimer/desc"
	"dulcimer/dtext"
	"dulcimer/entry"
	"dulcimer/model"
	"dulcimer/wisdom"
)

// text tells a state as far as the calls that are left may be told of it, and as far as it does not follow from which ones are done: which keys are known, and which handles are open, does.
func (s *search) text(done int, now model.State) string {
	var b strings.Builder
	told, moved := s.left(done)
	for _, row := range now.Kept {
		writeRow(&b, row, told, moved)
		b.WriteByte('/')
	}
	for _, x := range now.Known {
		if s.doubt[x.Key] > 1 {
			plan, _ := dtext.Print(x.Desc)
			b.WriteString(keyText(x.Key) + plan)
		}
	}
	return b.String()
}

// left tells for which keys a call that is left asks whether they are kept, and which ones it moves.
func (s *search) left(done int) (told, moved map[api.Key]int) {
	told, moved = map[api.Key]int{}, map[api.Key]int{}
	for i, o := range s.l {
		if done&(1<<i) != 0 {
			continue
		}
		switch kind := o.Call.Kind; kind {
		case api.CallLookup, api.CallEvict:
			if kind == api.CallLookup || o.To != never {
				told[o.Call.Key]++
			}
			fallthrough
		case api.CallGet:
			moved[o.Call.Key]++
		}
	}
	return told, moved
}

// writeRow tells of a row what decides when keys that are asked for go: which ones are ahead of each, in whatever order, by their names if they are moved.
func writeRow(b *strings.Builder, row []api.Key, told, moved map[api.Key]int) {
	var some []api.Key
	others := 0
	for _, k := range row {
		switch {
		case told[k] > 0:
			slices.SortFunc(some, entry.Cmp)
			for _, x := range some {
				b.WriteString(keyText(x))
			}
			b.WriteString("+" + strconv.Itoa(others) + "!" + keyText(k))
			some, others = nil, 0
		case moved[k] > 0:
			some = append(some, k)
		default:
			others++
		}
	}
}

func keyText(k api.Key) string { return " " + strconv.Itoa(k.N) + "." + strconv.Itoa(k.Dir) + " " }

// doubtful tells of each key how many plans for it may become known.
func doubtful(l []api.Op, plans []api.Desc) map[api.Key]int {
	seen := map[api.Key][]api.Desc{}
	add := func(k api.Key, d api.Desc) {
		if !slices.ContainsFunc(seen[k], func(other api.Desc) bool { return desc.Same(other, d) }) {
			seen[k] = append(seen[k], d)
		}
	}
	for i, o := range l {
		switch o.Call.Kind {
		case api.CallGet:
			add(o.Call.Key, plans[i])
		case api.CallImport:
			known, _, _ := wisdom.Parse(o.Call.Text)
			for _, x := range known {
				add(x.Key, x.Desc)
			}
		}
	}
	doubt := map[api.Key]int{}
	for k, ds := range seen {
		doubt[k] = len(ds)
	}
	return doubt
}
