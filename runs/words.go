package runs

import (
	"vigil/api"
	"vigil/word"
)

// Word is one that is accepted, if there is any.
func (m *Machine) Word() (api.Word, bool) {
	return wordOf(m.judge(), func(s int) int { return m.States[s].Must })
}

// Path is one of a good model whose trace is accepted, if there is any.
func (m *Machine) Path(system api.Model) (api.Word, bool) {
	return wordOf(m.JudgeBeside(system, m.First), func(n Spot) int { return n.Place })
}

// wordOf is an accepted run, told by a number for each node.
func wordOf[N comparable](j *Judge[N], number func(N) int) (api.Word, bool) {
	head, loop, ok := j.Lasso()
	if !ok {
		return api.Word{}, false
	}
	// The same numbers come from what is the least, which is easier to read.
	return word.Least(api.Word{Head: numbers(head, number), Loop: numbers(loop, number)}), true
}

func numbers[N any](nodes []N, number func(N) int) []int {
	var list []int
	for _, n := range nodes {
		list = append(list, number(n))
	}
	return list
}
