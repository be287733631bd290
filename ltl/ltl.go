// Package ltl knows formulas of what comes: see doc/01-ltl.md.
package ltl

import (
	"strings"

	"vigil/api"
	"vigil/nodes"
)

// kind tells of an Op how it is written, what it turns to behind a Not, and
// whether it is one of those that Parts tells.
type kind struct {
	sign   string
	turned int
	part   bool
}

var kinds = [...]kind{
	api.True:     {sign: "true", turned: api.False},
	api.False:    {sign: "false", turned: api.True},
	api.Not:      {sign: "!"},
	api.And:      {sign: "&", turned: api.Or},
	api.Or:       {sign: "|", turned: api.And},
	api.Implies:  {sign: "->"},
	api.Next:     {sign: "X", turned: api.Next, part: true},
	api.Until:    {sign: "U", turned: api.Release, part: true},
	api.Release:  {sign: "R", turned: api.Until, part: true},
	api.Finally:  {sign: "F"},
	api.Globally: {sign: "G"},
}

// Parse reads a formula (A2).
func Parse(s string) (api.Form, api.Errno, int) {
	if len(s) > longest {
		return api.Form{}, api.ErrLong, 0
	}
	r := &reader{text: s}
	return r.formula()
}

// Print writes one (A3).
func Print(f api.Form) string {
	l, ok := nodes.Of(f)
	if !ok {
		return ""
	}
	root := l.Len() - 1
	if l.Sizes()[root] > nodes.Most {
		return ""
	}
	return write(l, root)
}

// piece is what is yet to be written: a sign, or, if it is empty, a Node.
type piece struct {
	sign string
	id   int
}

func write(l *nodes.List, root int) string {
	var text strings.Builder
	todo := []piece{{id: root}}
	for len(todo) > 0 {
		p := todo[len(todo)-1]
		todo = todo[:len(todo)-1]
		if p.sign != "" {
			text.WriteString(p.sign)
			continue
		}
		n := l.At(p.id)
		sign := kinds[n.Op].sign
		switch kids := n.Kids(); {
		case len(kids) == 2:
			text.WriteByte('(')
			todo = append(todo, piece{sign: ")"}, piece{id: kids[1]}, piece{sign: sign}, piece{id: kids[0]})
		case len(kids) == 1:
			text.WriteString(sign)
			todo = append(todo, piece{id: kids[0]})
		case n.Op == api.Prop:
			text.WriteByte('a' + byte(n.N))
		default:
			text.WriteString(sign)
		}
	}
	return text.String()
}

// Plain says the same with less (A4).
func Plain(f api.Form) api.Form {
	l, root, ok := plain(f)
	if !ok || l.Sizes()[root] > nodes.Most {
		return api.Form{Op: api.False}
	}
	return l.Form(root)
}

// Parts tells what of a formula speaks of later (A4).
func Parts(f api.Form) []api.Form {
	l, root, ok := plain(f)
	if !ok {
		return nil
	}
	var total int64
	var parts []api.Form
	sizes := l.Sizes()
	for _, id := range l.Within(root) {
		if !kinds[l.At(id).Op].part {
			continue
		}
		total += sizes[id]
		if total > nodes.Most {
			return nil
		}
		parts = append(parts, l.Form(id))
	}
	return parts
}
