package script

import (
	"strconv"
	"strings"

	"dulcimer/api"
	"dulcimer/lex"
	"dulcimer/play"
)

// heads is how many lines stand ahead of the clients.
const heads = 3

// Parse tells the script of a text, or the line at fault.
func Parse(text string) (s play.Script, line int, e api.Errno) {
	if len(text) > most {
		return play.Script{}, 0, api.ErrBig
	}
	at := 0
	for at < len(text) || line < heads {
		line++
		words, next, ok := wordsAt(text, at)
		if !ok || !add(&s, line, words) {
			return play.Script{}, line, api.ErrSyntax
		}
		at = next
	}
	return s, 0, api.OK
}

// wordsAt tells the words of the line from a place on, and the place behind it.
func wordsAt(text string, at int) (words []string, next int, ok bool) {
	line, next, ok := lex.Line(text, at)
	if !ok {
		return nil, 0, false
	}
	words, e := lex.Words(line)
	return words, next, e == api.OK && len(words) > 0
}

// add adds what a line says, if it may stand there.
func add(s *play.Script, line int, words []string) bool {
	switch first, rest := words[0], words[1:]; {
	case line == 1:
		l, ok := ints(rest)
		if first != "play" || !ok || len(l) != 2 {
			return false
		}
		s.Stripes, s.Room = l[0], l[1]
		return true
	case line == 2:
		l, ok := ints(rest)
		s.Picks = l
		return ok && first == "picks"
	case line == heads:
		l, ok := ints(rest)
		s.Ticks = l
		return ok && first == "ticks"
	case first == "client":
		s.Clients = append(s.Clients, nil)
		return len(rest) == 0
	}
	last := len(s.Clients) - 1
	c, ok := call(words)
	if !ok || last < 0 {
		return false
	}
	s.Clients[last] = append(s.Clients[last], c)
	return true
}

// call tells the call of a line.
func call(words []string) (api.Call, bool) {
	c, rest := api.Call{}, words[1:]
kinds:
	for kind := api.CallGet; kind <= api.CallRelease; kind++ {
		if word(kind) != words[0] {
			continue
		}
		c.Kind = kind
		switch kind {
		case api.CallGet, api.CallLookup, api.CallEvict:
			l, ok := ints(rest)
			if !ok || len(l) != 2 {
				break kinds
			}
			c.Key = api.Key{N: l[0], Dir: l[1]}
			return c, true
		case api.CallImport:
			text, ok := fromHex(rest)
			c.Text = text
			return c, ok
		case api.CallExport:
			return c, len(rest) == 0
		default:
			return ofHandle(c, rest)
		}
	}
	return api.Call{}, false
}

// ofHandle tells an Execute or a Release, from what stands behind its word.
func ofHandle(c api.Call, rest []string) (api.Call, bool) {
	if len(rest) < 2 || c.Kind == api.CallRelease && len(rest) > 2 {
		return api.Call{}, false
	}
	l, ok := ints(rest[:2])
	if !ok {
		return api.Call{}, false
	}
	c.Of = api.Ref{Who: l[0], At: l[1]}
	for _, w := range rest[2:] {
		a, e := strconv.ParseUint(w, 10, 64)
		if e != nil || strconv.FormatUint(a, 10) != w {
			return api.Call{}, false
		}
		c.X = append(c.X, a)
	}
	return c, true
}

// ints tells numbers, if all are just as they are written.
func ints(words []string) ([]int, bool) {
	var l []int
	for _, w := range words {
		n, e := strconv.Atoi(w)
		if e != nil || strconv.Itoa(n) != w {
			return nil, false
		}
		l = append(l, n)
	}
	return l, true
}

// fromHex tells the bytes of one word, or none of none.
func fromHex(words []string) (string, bool) {
	if len(words) == 0 {
		return "", true
	}
	if len(words) > 1 || len(words[0])%2 != 0 {
		return "", false
	}
	var b strings.Builder
	for i := 0; i < len(words[0]); i += 2 {
		high, low := strings.IndexByte(hexes, words[0][i]), strings.IndexByte(hexes, words[0][i+1])
		if high < 0 || low < 0 {
			return "", false
		}
		b.WriteByte(byte(high<<4 | low))
	}
	return b.String(), true
}
