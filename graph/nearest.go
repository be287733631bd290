package graph

import (
	"iter"
	"slices"
)

// Step is the last one of a way: it knows its node, and the Step ahead of it. So
// ways that begin alike share their beginning.
type Step[N comparable] struct {
	Node N
	Back *Step[N]
}

// Way are the nodes from where it began up to this Step.
func (s *Step[N]) Way() []N {
	var way []N
	for ; s != nil; s = s.Back {
		way = append(way, s.Node)
	}
	slices.Reverse(way)
	return way
}

// Nearest goes on behind a Step (nil: it begins), with a node of first, and then
// with those that next tells, until it is at a wanted one: by a shortest way, if
// there is any; else it is nil.
func Nearest[N comparable](back *Step[N], first iter.Seq[N], next func(N) iter.Seq[N], wanted func(N) bool) *Step[N] {
	var found []*Step[N]
	seen := map[N]struct{}{}
	enter := func(nodes iter.Seq[N], back *Step[N]) {
		for n := range nodes {
			if _, there := seen[n]; !there {
				seen[n] = struct{}{}
				found = append(found, &Step[N]{n, back})
			}
		}
	}
	enter(first, back)
	for i := 0; i < len(found); i++ {
		s := found[i]
		if wanted(s.Node) {
			return s
		}
		enter(next(s.Node), s)
	}
	return nil
}

// Behind yields what is a step behind a node.
func (g Graph[N]) Behind(n N) iter.Seq[N] { return nodes(g.Next(n, 0)) }

// nodes leaves the places away.
func nodes[N any](list iter.Seq2[int, N]) iter.Seq[N] {
	return func(yield func(N) bool) {
		for _, n := range list {
			if !yield(n) {
				return
			}
		}
	}
}
