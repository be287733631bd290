// Package ltl knows formulas of what comes: see doc/01-ltl.md.
package ltl

import (
	"strings"

	"vigil/api"
	"vigil/nodes"
)

// kind tells of an Op how it is written, and whether that is ahead of a Kid,
// between two, or without any.
type kind struct {
	sign string
	kids int
}

var kinds = [...]kind{
	api.True:     {sign: "true"},
	api.False:    {sign: "false"},
	api.Not:      {sign: "!", kids: 1},
	api.And:      {sign: "&", kids: 2},
	api.Or:       {sign: "|", kids: 2},
	api.Implies:  {sign: "->", kids: 2},
	api.Next:     {sign: "X", kids: 1},
	api.Until:    {sign: "U", kids: 2},
	api.Release:  {sign: "R", kids: 2},
	api.Finally:  {sign: "F", kids: 1},
	api.Globally: {sign: "G", kids: 1},
}

// Parse reads a formula (A2).
func Parse(s string) (api.Form, api.Errno, int) {
	if len(s) > longest {
		return api.Form{}, api.ErrLong, 0
	}
	r := &reader{text: s}
	return r.formula()
}

// Print writes one (A3).
func Print(f api.Form) string {
	l, ok := nodes.Of(f)
	if !ok {
		return ""
	}
	root := l.Len() - 1
	if l.Sizes()[root] > nodes.Most {
		return ""
	}
	return write(l, root)
}

// piece is what is yet to be written: a sign, or, if it is empty, a Node.
type piece struct {
	sign string
	id   int
}

func write(l *nodes.List, root int) string {
	var text strings.Builder
	todo := []piece{{id: root}}
	for len(todo) > 0 {
		p := todo[len(todo)-1]
		todo = todo[:len(todo)-1]
		if p.sign != "" {
			text.WriteString(p.sign)
			continue
		}
		n := l.At(p.id)
		k := kinds[n.Op]
		switch {
		case n.Op == api.Prop:
			text.WriteByte('a' + byte(n.N))
		case k.kids == 2:
			text.WriteByte('(')
			todo = append(todo, piece{sign: ")"}, piece{id: n.Right}, piece{sign: k.sign}, piece{id: n.Left})
		case k.kids == 1:
			text.WriteString(k.sign)
			todo = append(todo, piece{id: n.Left})
		default:
			text.WriteString(k.sign)
		}
	}
	return text.String()
}

// Plain says the same with less (A4).
func Plain(f api.Form) api.Form {
	l, root, ok := nodes.Plain(f)
	if !ok || l.Sizes()[root] > nodes.Most {
		return api.Form{Op: api.False}
	}
	return l.Form(root)
}

// Parts tells what of a formula speaks of later (A4).
func Parts(f api.Form) []api.Form {
	l, root, ok := nodes.Plain(f)
	if !ok {
		return nil
	}
	ids := l.Later(root)
	sizes := l.Sizes()
	var total int64
	for _, id := range ids {
		total += sizes[id]
	}
	if total > nodes.Most {
		return nil
	}
	var parts []api.Form
	for _, id := range ids {
		parts = append(parts, l.Form(id))
	}
	return parts
}
