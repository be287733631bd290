package runs

import "vigil/api"

// gone is the new number of a State that is not kept.
const gone = -1

// clean leaves in the lists of an automaton those numbers alone that are States',
// each once, and of these those alone that read some letter.
func clean(a api.Auto) api.Auto {
	seen := newMarks(len(a.States))
	return changed(a, a.States, func(list []int) []int {
		seen.clear()
		var good []int
		for _, s := range list {
			if 0 <= s && s < len(a.States) && able(a.States[s]) && seen.add(s) {
				good = append(good, s)
			}
		}
		return good
	})
}

// able tells whether a State reads any letter. If it does, it reads its Must.
func able(s api.State) bool {
	return 0 <= s.Must && s.Must <= highest && Reads(s, s.Must)
}

// thin leaves those States of a clean automaton alone that are kept.
func thin(a api.Auto, keep []bool) api.Auto {
	var states []api.State
	numbers := make([]int, len(a.States))
	for s, state := range a.States {
		numbers[s] = gone
		if keep[s] {
			numbers[s] = len(states)
			states = append(states, state)
		}
	}
	return changed(a, states, func(list []int) []int {
		var good []int
		for _, s := range list {
			if numbers[s] != gone {
				good = append(good, numbers[s])
			}
		}
		return good
	})
}

// changed is an automaton with other States and other lists.
func changed(a api.Auto, states []api.State, list func([]int) []int) api.Auto {
	b := api.Auto{First: list(a.First)}
	for _, state := range states {
		state.To = list(state.To)
		b.States = append(b.States, state)
	}
	for _, goal := range a.Goals {
		b.Goals = append(b.Goals, list(goal))
	}
	return b
}
