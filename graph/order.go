package graph

// roomy is how many numbers there may be, if a list is laid out for all of them,
// reached or not.
const roomy = 1 << 24

// order keeps of each node that was reached as which one it was.
type order[N comparable] interface {
	add(n N, index int)
	find(n N) (int, bool)
}

func newOrder[N comparable](g Graph[N]) order[N] {
	if g.Number == nil || g.Size > roomy {
		return anyOrder[N]{}
	}
	return &listed[N]{g.Number, make([]int32, g.Size)}
}

type anyOrder[N comparable] map[N]int

func (o anyOrder[N]) add(n N, index int) { o[n] = index }

func (o anyOrder[N]) find(n N) (int, bool) {
	index, there := o[n]
	return index, there
}

// listed is an order of nodes with numbers of their own: for each the index, and
// 1 more, so that nothing is 0.
type listed[N comparable] struct {
	number  func(N) int
	indices []int32
}

func (o *listed[N]) add(n N, index int) { o.indices[o.number(n)] = int32(index + 1) }

func (o *listed[N]) find(n N) (int, bool) {
	index := int(o.indices[o.number(n)]) - 1
	return index, index >= 0
}
