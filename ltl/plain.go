package ltl

import (
	"vigil/api"
	"vigil/nodes"
)

// sides is a formula and its opposite, both plain, by their Nodes. With both at
// hand a Not is only the other side, however many there are.
type sides struct{ is, not int }

func (s sides) turned() sides { return sides{s.not, s.is} }

// planer lays out what is plain.
type planer struct{ list *nodes.List }

// plain lays out Plain(f): a List, and the number of f's Node in it.
func plain(f api.Form) (*nodes.List, int, bool) {
	from, ok := nodes.Of(f)
	if !ok {
		return nil, 0, false
	}
	p := planer{nodes.New()}
	done := make([]sides, from.Len())
	for id := range done {
		done[id] = p.both(from.At(id), done)
	}
	return p.list, done[len(done)-1].is, true
}

// both makes a Node plain, of whose Kids that is done.
func (p planer) both(n nodes.Node, done []sides) sides {
	switch n.Op {
	case api.True:
		return p.truth()
	case api.False:
		return p.truth().turned()
	case api.Prop:
		is := p.list.Add(n)
		return sides{is, p.list.Add(nodes.One(api.Not, is))}
	case api.Not:
		return done[n.Left].turned()
	case api.Next:
		kid := done[n.Left]
		return sides{p.list.Add(nodes.One(n.Op, kid.is)), p.list.Add(nodes.One(kinds[n.Op].turned, kid.not))}
	case api.Implies:
		return p.two(api.Or, done[n.Left].turned(), done[n.Right])
	case api.Finally:
		return p.two(api.Until, p.truth(), done[n.Left])
	case api.Globally:
		return p.two(api.Release, p.truth().turned(), done[n.Left])
	}
	return p.two(n.Op, done[n.Left], done[n.Right])
}

func (p planer) truth() sides {
	return sides{p.list.Add(nodes.Leaf(api.True, 0)), p.list.Add(nodes.Leaf(api.False, 0))}
}

func (p planer) two(op int, a, b sides) sides {
	return sides{p.list.Add(nodes.Two(op, a.is, b.is)), p.list.Add(nodes.Two(kinds[op].turned, a.not, b.not))}
}
