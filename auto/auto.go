// Package auto knows automata that read words without an end: see doc/03-auto.md.
package auto

import (
	"iter"

	"vigil/api"
	"vigil/graph"
	"vigil/nodes"
	"vigil/runs"
	"vigil/word"
)

// mostParts is how many Parts a formula may have that is made an automaton.
const mostParts = 6

// Accepts tells whether there is an accepted run (D1).
func Accepts(a api.Auto, w api.Word) bool {
	if !word.Good(w) {
		return false
	}
	w = word.Least(w) // its letters are the same, and there may be fewer places
	m := runs.Of(a)
	g := along(m, m.Behind(w.Head), w.Loop)
	return runs.NewJudge(m, g, func(at spot) int { return at.state }).Some()
}

// Empty tells whether there is none on any word (D2).
func Empty(a api.Auto) bool { return len(runs.Of(a).First) == 0 }

// Of makes an automaton of a formula (D3).
func Of(f api.Form) (api.Auto, api.Errno) {
	l, root, ok := nodes.Plain(f)
	if !ok {
		return api.Auto{}, api.ErrForm
	}
	parts := l.Later(root)
	if len(parts) > mostParts {
		return api.Auto{}, api.ErrMany
	}
	return runs.Of(newTableau(l, root, parts).automaton()).Auto, api.OK
}

// spot is a State that reads a place of a Loop.
type spot struct{ state, place int }

// along leads from spot to spot, round and round a Loop, whose first place is
// read by one of the States first.
func along(m *runs.Machine, first, loop []int) graph.Graph[spot] {
	at := func(list []int, place, from int) iter.Seq2[int, spot] {
		return func(yield func(int, spot) bool) {
			for i, s := range m.Reading(list, loop[place], from) {
				if !yield(i, spot{s, place}) {
					return
				}
			}
		}
	}
	return graph.Graph[spot]{
		First: func(yield func(spot) bool) {
			for _, s := range at(first, 0, 0) {
				if !yield(s) {
					return
				}
			}
		},
		Next: func(n spot, from int) iter.Seq2[int, spot] {
			return at(m.States[n.state].To, (n.place+1)%len(loop), from)
		},
		Number: func(n spot) int { return n.place*len(m.States) + n.state },
		Size:   len(loop) * len(m.States),
	}
}
