package proof

import (
	"iter"

	"vigil/api"
	"vigil/graph"
	"vigil/nodes"
)

// spot is a state of the model with a choice.
type spot struct{ state, set int }

// part is one of the formulas that the choices speak of.
type part struct {
	op   int
	said choices
	kids [][2]choices // of each state: with which choices its Kids are true there
}

// rules are what K1 says of a model and the opposite of a formula.
type rules struct {
	model api.Model
	parts []part
	first choices // those with which the opposite is true at state 0
}

// rulesOf makes them for a good model. What is no formula of letters, or has too
// many Parts: false.
func rulesOf(m api.Model, f api.Form) (*rules, bool) {
	l, root, ok := nodes.Plain(api.Form{Op: api.Not, Kids: []api.Form{f}})
	if !ok {
		return nil, false
	}
	later := l.Later(root)
	if len(later) > mostParts {
		return nil, false
	}
	r := &rules{model: m}
	for i, id := range later {
		r.parts = append(r.parts, part{op: l.At(id).Op, said: saying(i)})
	}
	read := readerOf(l, root, later)
	r.first = read(m.Letters[0])[root] & below(r.count())
	for _, letter := range m.Letters {
		truths := read(letter)
		for i, id := range later {
			var kids [2]choices
			for k, kid := range l.At(id).Kids() {
				kids[k] = truths[kid]
			}
			r.parts[i].kids = append(r.parts[i].kids, kids)
		}
	}
	return r, true
}

// count is how many choices there are.
func (r *rules) count() int { return 1 << len(r.parts) }

// has tells whether there is such a spot.
func (r *rules) has(n spot) bool {
	return 0 <= n.state && n.state < len(r.model.To) && 0 <= n.set && n.set < r.count()
}

// begins yields the spots where the opposite is true.
func (r *rules) begins(yield func(spot) bool) {
	for c := range r.first.from(0) {
		if !yield(spot{0, c}) {
			return
		}
	}
}

// behind yields where the steps from a spot lead, with places that rise, from a
// place on.
func (r *rules) behind(n spot, from int) iter.Seq2[int, spot] {
	return func(yield func(int, spot) bool) {
		for i, t := range r.model.To[n.state] {
			start := i * mostChoices
			for d := range r.next(n, t).from(max(from-start, 0)) {
				if !yield(start+d, spot{t, d}) {
					return
				}
			}
		}
	}
}

// next are the choices with which a step from a spot leads to a state behind it.
func (r *rules) next(n spot, to int) choices {
	d := below(r.count())
	for _, p := range r.parts {
		d &^= p.asks(n, to) ^ p.said.at(n.set)
	}
	return d
}

// asks are the choices of the state behind a spot with which the part is true here,
// by what is true here and there.
func (p part) asks(n spot, to int) choices {
	first, second := p.kids[n.state][0].at(n.set), p.kids[n.state][1].at(n.set)
	switch p.op {
	case api.Until:
		return second | first&p.said
	case api.Release:
		return second & (first | p.said)
	}
	return p.kids[to][0]
}

// waits tells whether a number is that of a part p U q that the choice says is
// true, where q is not.
func (r *rules) waits(n spot, number int) bool {
	if number < 0 || number >= len(r.parts) {
		return false
	}
	p := r.parts[number]
	return p.op == api.Until && p.said.at(n.set)&^p.kids[n.state][1].at(n.set) == every
}

// graph leads from spot to spot by the steps.
func (r *rules) graph() graph.Graph[spot] {
	return graph.Graph[spot]{First: r.begins, Next: r.behind}
}
