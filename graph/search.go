package graph

import "math"

// done is the index of a node whose part is known: it lowers nothing.
const done = math.MaxInt32 - 1

// search is Tarjan's way through a Graph. Nodes are counted as they are reached.
type search[N comparable] struct {
	Graph[N]
	order order[N] // of each node that was reached: its index, or done
	count int
	open  []N      // those whose part is not yet known
	ways  []way[N] // from where it began to where it is
}

// way is a node on the way to where the search is: what is behind it is looked at
// up to a place, and lowest is the lowest index that was found there.
type way[N comparable] struct {
	node                 N
	index, lowest, place int
	at                   int // it is open[at]
}

func newSearch[N comparable](g Graph[N]) *search[N] {
	return &search[N]{Graph: g, order: newOrder(g)}
}

// under tells whether the search is at a node.
func (s *search[N]) under() bool { return len(s.ways) > 0 }

func (s *search[N]) top() *way[N] { return &s.ways[len(s.ways)-1] }

// begin enters a node, if it is a new one.
func (s *search[N]) begin(n N) {
	if _, there := s.order.find(n); !there {
		s.enter(n)
	}
}

func (s *search[N]) enter(n N) {
	s.order.set(n, s.count)
	s.ways = append(s.ways, way[N]{node: n, index: s.count, lowest: s.count, at: len(s.open)})
	s.open = append(s.open, n)
	s.count++
}

// further enters the next new node behind where the search is, if there is one.
func (s *search[N]) further() bool {
	w := s.top()
	for place, n := range s.Next(w.node, w.place) {
		index, there := s.order.find(n)
		if !there {
			w.place = place + 1
			s.enter(n)
			return true
		}
		w.lowest = min(w.lowest, index)
	}
	return false
}

// leave goes back by one node, and answers its part, if that is known now.
func (s *search[N]) leave() []N {
	w := *s.top()
	s.ways = s.ways[:len(s.ways)-1]
	if w.lowest < w.index {
		s.top().lowest = min(s.top().lowest, w.lowest)
		return nil
	}
	part := s.open[w.at:]
	for _, n := range part {
		s.order.set(n, done)
	}
	s.open = s.open[:w.at]
	return part
}
