package proof

import (
	"vigil/api"
	"vigil/nodes"
)

// meaning is a formula made into a function: with which choices it is true, if one
// tells it the letter, and the same of the formulas within it, by their Nodes. (So
// it calls no other meaning, however deep the formula is.)
type meaning func(letter int, within []choices) choices

// meaningOf is that of a plain Node. If it is a part, said are the choices that say
// that it is true.
func meaningOf(n nodes.Node, said choices) meaning {
	switch n.Op {
	case api.True:
		return func(int, []choices) choices { return every }
	case api.False:
		return func(int, []choices) choices { return none }
	case api.Prop:
		return func(letter int, _ []choices) choices { return -choices(letter >> n.N & 1) }
	case api.Not:
		return func(_ int, within []choices) choices { return ^within[n.Left] }
	case api.And:
		return func(_ int, within []choices) choices { return within[n.Left] & within[n.Right] }
	case api.Or:
		return func(_ int, within []choices) choices { return within[n.Left] | within[n.Right] }
	}
	return func(int, []choices) choices { return said }
}

// readerOf makes a function of a plain formula and its parts: it tells of a letter
// for each Node of the formula with which choices that is true. The memory of an
// answer is used again for the next one.
func readerOf(l *nodes.List, root int, parts []int) func(letter int) []choices {
	said := make([]choices, l.Len())
	for i, id := range parts {
		said[id] = saying(i)
	}
	order := l.Within(root)
	meanings := make([]meaning, len(order))
	for i, id := range order {
		meanings[i] = meaningOf(l.At(id), said[id])
	}
	within := make([]choices, l.Len())
	return func(letter int) []choices {
		for i, id := range order {
			within[id] = meanings[i](letter, within)
		}
		return within
	}
}
