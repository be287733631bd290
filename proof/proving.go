package proof

import (
	"slices"

	"vigil/api"
)

// proof makes one, if there is one. Where spots lead to each other the Rank can but
// stay; and for ever the same is waited for there, or else there would be a path
// where the formula does not hold.
func (r *rules) proof() []api.Entry {
	var l []api.Entry
	rank := 0
	for group := range r.graph().Components() { // those that one leads to come ahead of it
		which := r.waited(group)
		for _, n := range group {
			l = append(l, api.Entry{State: n.state, Set: n.set, Rank: rank, Which: which})
		}
		rank++
	}
	return l
}

// waited is the number of a part that is waited for at all spots of a group; else
// it is 0.
func (r *rules) waited(group []spot) int {
	for i := range r.parts {
		over := func(n spot) bool { return !r.waits(n, i) }
		if !slices.ContainsFunc(group, over) {
			return i
		}
	}
	return 0
}
