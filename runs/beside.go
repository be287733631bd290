package runs

import (
	"iter"

	"vigil/api"
	"vigil/graph"
)

// Spot is a State of an automaton that reads the letters of a model's state.
type Spot struct{ Place, State int }

// Beside leads from Spot to Spot: the model goes from state to state, and the
// automaton reads that. The model's first state is read by one of a list.
func (m *Machine) Beside(system api.Model, first []int) graph.Graph[Spot] {
	spots := func(places, list []int, from int) iter.Seq2[int, Spot] {
		return func(yield func(int, Spot) bool) {
			for i, p := range places {
				start := i * len(list)
				for place, s := range m.Reading(list, system.Letters[p], max(from-start, 0)) {
					if !yield(start+place, Spot{p, s}) {
						return
					}
				}
			}
		}
	}
	return graph.Graph[Spot]{
		First: func(yield func(Spot) bool) {
			for _, n := range spots([]int{0}, first, 0) {
				if !yield(n) {
					return
				}
			}
		},
		Next: func(n Spot, from int) iter.Seq2[int, Spot] {
			return spots(system.To[n.Place], m.States[n.State].To, from)
		},
		Number: func(n Spot) int { return n.Place*len(m.States) + n.State },
		Size:   len(system.To) * len(m.States),
	}
}

// JudgeBeside judges the runs beside a model.
func (m *Machine) JudgeBeside(system api.Model, first []int) *Judge[Spot] {
	return NewJudge(m, m.Beside(system, first), func(n Spot) int { return n.State })
}
