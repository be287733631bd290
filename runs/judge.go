package runs

import "vigil/graph"

// Judge tells where accepted runs can stay for ever: in which parts of a graph
// that a Machine goes through. Each node of that has a State.
type Judge[N comparable] struct {
	graph.Graph[N]
	machine *Machine
	state   func(N) int
	states  *marks
	goals   *marks
}

// NewJudge makes one.
func NewJudge[N comparable](m *Machine, g graph.Graph[N], state func(N) int) *Judge[N] {
	return &Judge[N]{g, m, state, newMarks(len(m.States)), newMarks(len(m.Goals))}
}

// Some tells whether there is any accepted run.
func (j *Judge[N]) Some() bool {
	for part := range j.Components() {
		if j.Accepted(part) {
			return true
		}
	}
	return false
}

// Accepted tells whether an accepted run can stay within a part for ever.
func (j *Judge[N]) Accepted(part []N) bool {
	return j.Around(part) && j.meets(part) == len(j.machine.Goals)
}

// meets is how many Goals have a State of a part.
func (j *Judge[N]) meets(part []N) int {
	j.states.clear()
	j.goals.clear()
	count := 0
	for _, n := range part {
		s := j.state(n)
		if !j.states.add(s) {
			continue
		}
		for range j.goals.only(j.machine.met[s]) {
			count++
		}
	}
	return count
}
