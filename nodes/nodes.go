// Package nodes lays a formula out flat. A Form may be nested deeper than calls
// can be, may hold the same memory many times, and may even be within itself:
// so it is gone through in loops, and each piece of memory only once.
package nodes

import "vigil/api"

// None stands where a Node has no Kid.
const None = -1

// Most is how many Forms an answer may have (DOC.md, G5). One piece of memory
// that is held many times can stand for far more.
const Most = 1<<31 - 1

// lastLetter is the N of the letter h.
const lastLetter = 7

// kidCounts tells of each Op how many Kids it has.
var kidCounts = [...]int{
	api.True:     0,
	api.False:    0,
	api.Prop:     0,
	api.Not:      1,
	api.And:      2,
	api.Or:       2,
	api.Implies:  2,
	api.Next:     1,
	api.Until:    2,
	api.Release:  2,
	api.Finally:  1,
	api.Globally: 1,
}

// Node is a Form whose Kids are numbers of Nodes ahead of it in its List.
type Node struct {
	Op, N       int
	Left, Right int
}

// Leaf is a Node without Kids.
func Leaf(op, n int) Node { return Node{Op: op, N: n, Left: None, Right: None} }

// One is a Node with one Kid.
func One(op, kid int) Node { return Node{Op: op, Left: kid, Right: None} }

// Two is a Node with two Kids.
func Two(op, left, right int) Node { return Node{Op: op, Left: left, Right: right} }

// Kids are the numbers of a Node's Kids, in their order.
func (n Node) Kids() []int {
	switch {
	case n.Left == None:
		return nil
	case n.Right == None:
		return []int{n.Left}
	}
	return []int{n.Left, n.Right}
}

// List is Nodes, each different one once, Kids ahead of what they are within.
type List struct {
	nodes []Node
	ids   map[Node]int
}

// New makes an empty List.
func New() *List { return &List{ids: map[Node]int{}} }

// Of lays a formula of letters out (A3). Its own Node is the last one. Other
// Forms, and those within themselves, which are no formula at all: false.
func Of(f api.Form) (*List, bool) {
	l := New()
	add := func(f *api.Form, kids []int) int {
		n := Leaf(f.Op, f.N)
		switch len(kids) {
		case 1:
			n = One(f.Op, kids[0])
		case 2:
			n = Two(f.Op, kids[0], kids[1])
		}
		return l.Add(n)
	}
	if !walk(&f, kidsOf, add) {
		return nil, false
	}
	return l, true
}

// kidsOf are the Kids of one Form, and whether it may stand in a formula of
// letters, whatever its Kids are.
func kidsOf(f *api.Form) ([]*api.Form, bool) {
	if f.Op < 0 || f.Op >= len(kidCounts) || len(f.Kids) != kidCounts[f.Op] {
		return nil, false
	}
	highest := 0
	if f.Op == api.Prop {
		highest = lastLetter
	}
	if f.N < 0 || f.N > highest {
		return nil, false
	}
	kids := make([]*api.Form, len(f.Kids))
	for i := range f.Kids {
		kids[i] = &f.Kids[i]
	}
	return kids, true
}

// Add is the number of such a Node; it is laid behind the others, if there is
// none yet.
func (l *List) Add(n Node) int {
	id, there := l.ids[n]
	if !there {
		id = len(l.nodes)
		l.nodes = append(l.nodes, n)
		l.ids[n] = id
	}
	return id
}

// Len is how many Nodes there are.
func (l *List) Len() int { return len(l.nodes) }

// At is Node number id.
func (l *List) At(id int) Node { return l.nodes[id] }

// Within are the numbers of all Nodes within one, and itself: Kids ahead of what
// they are within, those of a first Kid ahead of those of a second one.
func (l *List) Within(id int) []int {
	var order []int
	kids := func(id int) ([]int, bool) { return l.nodes[id].Kids(), true }
	walk(id, kids, func(id int, _ []int) int {
		order = append(order, id)
		return id
	})
	return order
}

// Sizes tells of each Node how many Forms it would be, but not above Most + 1.
func (l *List) Sizes() []int64 {
	sizes := make([]int64, len(l.nodes))
	for id, n := range l.nodes {
		sizes[id] = 1
		for _, kid := range n.Kids() {
			sizes[id] = min(sizes[id]+sizes[kid], Most+1)
		}
	}
	return sizes
}

// Form makes a Form of a Node, of new memory throughout.
func (l *List) Form(id int) api.Form {
	type slot struct {
		id int
		at *api.Form
	}
	var f api.Form
	todo := []slot{{id, &f}}
	for len(todo) > 0 {
		s := todo[len(todo)-1]
		todo = todo[:len(todo)-1]
		n := l.nodes[s.id]
		s.at.Op, s.at.N = n.Op, n.N
		kids := n.Kids()
		if len(kids) > 0 {
			s.at.Kids = make([]api.Form, len(kids))
		}
		for i, kid := range kids {
			todo = append(todo, slot{kid, &s.at.Kids[i]})
		}
	}
	return f
}
