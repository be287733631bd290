package graph

// roomy is how many numbers there may be, if a list is laid out for all of them,
// reached or not.
const roomy = 1 << 24

// order keeps an index of each node that was reached.
type order[N comparable] interface {
	set(n N, index int)
	find(n N) (int, bool)
}

func newOrder[N comparable](g Graph[N]) order[N] {
	if g.Number == nil || g.Size > roomy {
		return mapped[N]{}
	}
	return &listed[N]{g.Number, make([]int32, g.Size)}
}

type mapped[N comparable] map[N]int

func (o mapped[N]) set(n N, index int) { o[n] = index }

func (o mapped[N]) find(n N) (int, bool) {
	index, there := o[n]
	return index, there
}

// listed is the order of nodes with numbers of their own: for each the index, and
// 1 more, so that nothing is 0.
type listed[N comparable] struct {
	number  func(N) int
	indices []int32
}

func (o *listed[N]) set(n N, index int) { o.indices[o.number(n)] = int32(index + 1) }

func (o *listed[N]) find(n N) (int, bool) {
	index := int(o.indices[o.number(n)]) - 1
	return index, index >= 0
}
