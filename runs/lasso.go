package runs

import (
	"iter"
	"slices"

	"vigil/graph"
)

// Lasso is an accepted run: some nodes, and others behind them again and again.
// (If there is none: false.) It is not the shortest one, but each piece of it is.
func (j *Judge[N]) Lasso() (head, loop []N, ok bool) {
	homes := j.homes()
	start := graph.Nearest(nil, j.First, j.Behind, func(n N) bool { return homes[n] > 0 })
	if start == nil {
		return nil, nil, false
	}
	home := homes[start.Node]
	stays := func(n N) bool { return homes[n] == home }
	end := j.round(start, stays)
	before, all := len(start.Way())-1, end.Way()
	return all[:before], all[before : len(all)-1], true
}

// homes tells of each node of a part where an accepted run can stay the part's
// number, from 1 on.
func (j *Judge[N]) homes() map[N]int {
	homes := map[N]int{}
	count := 0
	for part := range j.Components() {
		if !j.Accepted(part) {
			continue
		}
		count++
		for _, n := range part {
			homes[n] = count
		}
	}
	return homes
}

// round goes from a Step to nodes of all Goals, and back to where it began, and
// stays within an accepted part on the way.
func (j *Judge[N]) round(start *graph.Step[N], stays func(N) bool) *graph.Step[N] {
	next := func(n N) iter.Seq[N] { return where(j.Behind(n), stays) }
	left := make([]int, len(j.machine.Goals))
	for goal := range left {
		left[goal] = goal
	}
	at := start
	for {
		left = slices.DeleteFunc(left, j.meeting(at.Node))
		if len(left) == 0 {
			break
		}
		at = graph.Nearest(at, next(at.Node), next, func(n N) bool { return slices.ContainsFunc(left, j.meeting(n)) })
	}
	return graph.Nearest(at, next(at.Node), next, func(n N) bool { return n == start.Node })
}

// meeting tells of a Goal whether the State of a node is of it.
func (j *Judge[N]) meeting(n N) func(goal int) bool {
	met := j.machine.met[j.state(n)]
	return func(goal int) bool { return slices.Contains(met, goal) }
}

// where yields those nodes of which something is so.
func where[N any](nodes iter.Seq[N], is func(N) bool) iter.Seq[N] {
	return func(yield func(N) bool) {
		for n := range nodes {
			if is(n) && !yield(n) {
				return
			}
		}
	}
}
