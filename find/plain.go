package find

import (
	"iter"
	"slices"

	"vigil/api"
	"vigil/runs"
)

// nowhere is where a plain automaton goes that has no State for what comes.
const nowhere = -1

// plain tells whether an automaton is so (H2).
func plain(a api.Auto) bool {
	single := func(list []int) bool {
		return len(list) == 0 || len(list) == 1 && 0 <= list[0] && list[0] < len(a.States)
	}
	branches := func(s api.State) bool { return !single(s.To) }
	return len(a.Goals) == 0 && single(a.First) && !slices.ContainsFunc(a.States, branches)
}

// reader is a plain automaton beside a model. It has one run at most on each
// trace, and that is accepted, if it is never stuck.
type reader struct {
	api.Model
	api.Auto
}

func (r reader) first(yield func(runs.Spot) bool) {
	yield(runs.Spot{Place: 0, State: only(r.First)})
}

func (r reader) next(at runs.Spot) iter.Seq[runs.Spot] {
	return func(yield func(runs.Spot) bool) {
		state := only(r.States[at.State].To)
		for _, place := range r.To[at.Place] {
			if !yield(runs.Spot{Place: place, State: state}) {
				return
			}
		}
	}
}

func (r reader) stuck(at runs.Spot) bool {
	return at.State == nowhere || !runs.Reads(r.States[at.State], r.Letters[at.Place])
}

// only is the number that a list has.
func only(list []int) int {
	if len(list) == 0 {
		return nowhere
	}
	return list[0]
}
