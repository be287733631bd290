package graph

import "math"

// done is the lowest of a node whose part is known: it lowers nothing.
const done = math.MaxInt

// search is Tarjan's way through a Graph. Nodes are counted as they are reached.
type search[N comparable] struct {
	Graph[N]
	order  order[N]
	nodes  []N
	lowest []int // of each: the lowest one of its part that is known to be behind it
	open   []int // those whose part is not yet known
	ways   []way // from where it began to where it is
	part   []N
}

// way is a node on the way to where the search is: what is behind it is looked at
// up to a place, and it is open[at].
type way struct{ index, place, at int }

func newSearch[N comparable](g Graph[N]) *search[N] {
	return &search[N]{Graph: g, order: newOrder(g)}
}

// under tells whether the search is at a node.
func (s *search[N]) under() bool { return len(s.ways) > 0 }

func (s *search[N]) top() *way { return &s.ways[len(s.ways)-1] }

// begin enters a node, if it is a new one.
func (s *search[N]) begin(n N) {
	if _, there := s.order.find(n); !there {
		s.enter(n)
	}
}

func (s *search[N]) enter(n N) {
	index := len(s.nodes)
	s.order.add(n, index)
	s.nodes = append(s.nodes, n)
	s.lowest = append(s.lowest, index)
	s.ways = append(s.ways, way{index, 0, len(s.open)})
	s.open = append(s.open, index)
}

// further enters the next new node behind where the search is, if there is one.
func (s *search[N]) further() bool {
	w := s.top()
	for place, n := range s.Next(s.nodes[w.index], w.place) {
		behind, there := s.order.find(n)
		if !there {
			w.place = place + 1
			s.enter(n)
			return true
		}
		s.lower(w.index, behind)
	}
	return false
}

func (s *search[N]) lower(index, behind int) {
	s.lowest[index] = min(s.lowest[index], s.lowest[behind])
}

// leave goes back by one node, and answers its part, if that is known now.
func (s *search[N]) leave() []N {
	w := *s.top()
	s.ways = s.ways[:len(s.ways)-1]
	s.part = s.part[:0]
	if s.lowest[w.index] == w.index {
		for _, index := range s.open[w.at:] {
			s.lowest[index] = done
			s.part = append(s.part, s.nodes[index])
		}
		s.open = s.open[:w.at]
	}
	if s.under() {
		s.lower(s.top().index, w.index)
	}
	return s.part
}
