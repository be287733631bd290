package nodes

import "vigil/api"

// turned tells of each Op that may be plain what it is behind a Not.
var turned = [...]int{
	api.And:     api.Or,
	api.Or:      api.And,
	api.Next:    api.Next,
	api.Until:   api.Release,
	api.Release: api.Until,
}

// sides is a formula and its opposite, both plain, by their Nodes. With both at
// hand a Not is only the other side, however many there are.
type sides struct{ is, not int }

func (s sides) other() sides { return sides{s.not, s.is} }

// planer lays out what is plain.
type planer struct{ list *List }

// Plain lays out the plain formula that says the same as f (A4): a List, and the
// number of its Node. (The List has the opposite ones, too.) What is no formula
// of letters: false.
func Plain(f api.Form) (*List, int, bool) {
	from, ok := Of(f)
	if !ok {
		return nil, 0, false
	}
	p := planer{New()}
	done := make([]sides, from.Len())
	for id := range done {
		done[id] = p.both(from.At(id), done)
	}
	return p.list, done[len(done)-1].is, true
}

// both makes a Node plain, of whose Kids that is done.
func (p planer) both(n Node, done []sides) sides {
	switch n.Op {
	case api.True:
		return p.truth()
	case api.False:
		return p.truth().other()
	case api.Prop:
		is := p.list.Add(n)
		return sides{is, p.list.Add(One(api.Not, is))}
	case api.Not:
		return done[n.Left].other()
	case api.Next:
		kid := done[n.Left]
		return sides{p.list.Add(One(n.Op, kid.is)), p.list.Add(One(turned[n.Op], kid.not))}
	case api.Implies:
		return p.two(api.Or, done[n.Left].other(), done[n.Right])
	case api.Finally:
		return p.two(api.Until, p.truth(), done[n.Left])
	case api.Globally:
		return p.two(api.Release, p.truth().other(), done[n.Left])
	}
	return p.two(n.Op, done[n.Left], done[n.Right])
}

func (p planer) truth() sides {
	return sides{p.list.Add(Leaf(api.True, 0)), p.list.Add(Leaf(api.False, 0))}
}

func (p planer) two(op int, a, b sides) sides {
	return sides{p.list.Add(Two(op, a.is, b.is)), p.list.Add(Two(turned[op], a.not, b.not))}
}

// Later are the numbers of those within a plain Node that speak of later: its
// Parts (A4), in their order.
func (l *List) Later(id int) []int {
	var parts []int
	for _, part := range l.Within(id) {
		switch l.nodes[part].Op {
		case api.Next, api.Until, api.Release:
			parts = append(parts, part)
		}
	}
	return parts
}
