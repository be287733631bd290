// Package runs knows how automata go through what they read.
package runs

import (
	"iter"
	"slices"

	"vigil/api"
	"vigil/graph"
)

// highest is the set of all letters from a to h.
const highest = 255

// Machine is an automaton of those States alone that an accepted run can have.
// In its lists are numbers of these alone, each once.
type Machine struct {
	api.Auto
	met [][]int // of each State: the Goals that it is of
}

// Of makes one of any automaton: the same runs of it are accepted.
func Of(a api.Auto) *Machine {
	whole := newMachine(clean(a))
	return newMachine(thin(whole.Auto, whole.live()))
}

func newMachine(a api.Auto) *Machine {
	m := &Machine{a, make([][]int, len(a.States))}
	for g, list := range a.Goals {
		for _, s := range list {
			m.met[s] = append(m.met[s], g)
		}
	}
	return m
}

// Reads tells whether a State reads the letter x.
func Reads(s api.State, x int) bool { return x&s.Must == s.Must && x&s.Not == 0 }

// Reading yields those of a list that read the letter x, each with its place in
// the list, from a place on.
func (m *Machine) Reading(list []int, x, from int) iter.Seq2[int, int] {
	return func(yield func(int, int) bool) {
		for place := from; place < len(list); place++ {
			if s := list[place]; Reads(m.States[s], x) && !yield(place, s) {
				return
			}
		}
	}
}

// Behind tells which States may come behind those letters.
func (m *Machine) Behind(letters []int) []int {
	now := m.First
	seen := newMarks(len(m.States))
	for _, x := range letters {
		seen.clear()
		var next []int
		for _, s := range m.Reading(now, x, 0) {
			next = slices.AppendSeq(next, seen.only(m.States[s].To))
		}
		now = next
	}
	return now
}

// live tells of each State whether an accepted run can come to it.
func (m *Machine) live() []bool {
	j := m.judge()
	live := make([]bool, len(m.States))
	leads := func(s int) bool {
		return slices.ContainsFunc(m.States[s].To, func(t int) bool { return live[t] })
	}
	for part := range j.Components() {
		if j.Accepted(part) || slices.ContainsFunc(part, leads) {
			for _, s := range part {
				live[s] = true
			}
		}
	}
	return live
}

// judge judges runs on whatever letters.
func (m *Machine) judge() *Judge[int] {
	return NewJudge(m, m.steps(), func(s int) int { return s })
}

// steps leads from State to State, whatever they read.
func (m *Machine) steps() graph.Graph[int] {
	return graph.Graph[int]{
		First: slices.Values(m.First),
		Next: func(s, from int) iter.Seq2[int, int] {
			return func(yield func(int, int) bool) {
				for place, t := range m.States[s].To[from:] {
					if !yield(from+place, t) {
						return
					}
				}
			}
		},
		Number: func(s int) int { return s },
		Size:   len(m.States),
	}
}
