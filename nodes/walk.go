package nodes

import "slices"

// open is found, in walk, of what is not yet left.
const open = -1

// step is something that walk is to enter, or, if it has, to leave.
type step[K comparable] struct {
	at      K
	entered bool
	kids    int
}

// walk goes to all that is below root, and leaves each once, behind all that is
// below it, the first kid's side first. leave is told the numbers that it gave
// the kids, and gives one, not below 0. walk stops with false where kids refuses,
// and where something is below itself.
func walk[K comparable](root K, kids func(K) ([]K, bool), leave func(K, []int) int) bool {
	found := map[K]int{}
	var numbers []int
	stack := []step[K]{{at: root}}
	for len(stack) > 0 {
		top := stack[len(stack)-1]
		stack = stack[:len(stack)-1]
		if top.entered {
			from := len(numbers) - top.kids
			n := leave(top.at, numbers[from:])
			found[top.at] = n
			numbers = append(numbers[:from], n)
			continue
		}
		if n, there := found[top.at]; there {
			if n == open {
				return false
			}
			numbers = append(numbers, n)
			continue
		}
		below, ok := kids(top.at)
		if !ok {
			return false
		}
		found[top.at] = open
		stack = append(stack, step[K]{top.at, true, len(below)})
		for _, kid := range slices.Backward(below) {
			stack = append(stack, step[K]{at: kid})
		}
	}
	return true
}
