package runs

import "iter"

// marks are set at numbers from 0 on, and all taken away at once.
type marks struct {
	round int
	last  []int // of each number: the round of its mark
}

func newMarks(n int) *marks { return &marks{1, make([]int, n)} }

func (m *marks) clear() { m.round++ }

// add sets a mark, and tells whether there was none.
func (m *marks) add(i int) bool {
	if m.last[i] == m.round {
		return false
	}
	m.last[i] = m.round
	return true
}

// only yields those of a list that had no mark, and sets theirs.
func (m *marks) only(list []int) iter.Seq[int] {
	return func(yield func(int) bool) {
		for _, i := range list {
			if m.add(i) && !yield(i) {
				return
			}
		}
	}
}
