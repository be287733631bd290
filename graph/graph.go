// Package graph goes through whatever leads from one node to others. It does so
// in loops, so that it may be as deep as it will.
package graph

import "iter"

// Graph tells where one begins, and what is a step behind each node: Next(n, from)
// yields that with places that rise, from a place on. Where nodes have numbers of
// their own, from 0 to below Size, Number may tell them: it is quicker so.
type Graph[N comparable] struct {
	First  iter.Seq[N]
	Next   func(n N, from int) iter.Seq2[int, N]
	Number func(n N) int
	Size   int
}

// Components yields the nodes that are reached, in parts: two are in one part, if
// each leads to the other. Parts that a part leads to come ahead of it. The
// memory of a part is used again for the next one.
func (g Graph[N]) Components() iter.Seq[[]N] {
	return func(yield func([]N) bool) {
		first, stop := iter.Pull(g.First)
		defer stop()
		s := newSearch(g)
		for {
			if !s.under() {
				n, ok := first()
				if !ok {
					return
				}
				s.begin(n)
			} else if !s.further() {
				if part := s.leave(); len(part) > 0 && !yield(part) {
					return
				}
			}
		}
	}
}

// Around tells whether there is a way within a part that goes on for ever.
func (g Graph[N]) Around(part []N) bool {
	if len(part) > 1 {
		return true
	}
	for _, n := range g.Next(part[0], 0) {
		if n == part[0] {
			return true
		}
	}
	return false
}
