// Package auto knows automata that read words without an end: see doc/03-auto.md.
package auto

import (
	"vigil/api"
	"vigil/nodes"
	"vigil/runs"
	"vigil/word"
)

// mostParts is how many Parts a formula may have that is made an automaton.
const mostParts = 6

// Accepts tells whether there is an accepted run (D1).
func Accepts(a api.Auto, w api.Word) bool {
	if !word.Good(w) {
		return false
	}
	w = word.Least(w) // its letters are the same, and there may be fewer places
	m := runs.Of(a)
	return m.JudgeBeside(ring(w.Loop), m.Behind(w.Head)).Some()
}

// Empty tells whether there is none on any word (D2).
func Empty(a api.Auto) bool { return len(runs.Of(a).First) == 0 }

// Of makes an automaton of a formula (D3).
func Of(f api.Form) (api.Auto, api.Errno) {
	l, root, ok := nodes.Plain(f)
	if !ok {
		return api.Auto{}, api.ErrForm
	}
	parts := l.Later(root)
	if len(parts) > mostParts {
		return api.Auto{}, api.ErrMany
	}
	return runs.Of(newTableau(l, root, parts).automaton()).Auto, api.OK
}

// ring is a model that goes round and round a Loop. (It needs no names.)
func ring(loop []int) api.Model {
	m := api.Model{Letters: loop}
	for place := range loop {
		m.To = append(m.To, []int{(place + 1) % len(loop)})
	}
	return m
}
