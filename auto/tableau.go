package auto

import (
	"cmp"
	"iter"
	"math/bits"
	"slices"

	"vigil/api"
	"vigil/nodes"
)

// letterSets is how many sets of the letters a to h there are.
const letterSets = 256

// table is a set of sets of parts: it has bit d, if what it is the table of is
// true here, where all parts of the set d are owed to what comes next. So more
// parts never spoil it.
type table uint64

// having are, for each part, the sets that have it.
var having = [mostParts]table{
	0xAAAAAAAAAAAAAAAA,
	0xCCCCCCCCCCCCCCCC,
	0xF0F0F0F0F0F0F0F0,
	0xFF00FF00FF00FF00,
	0xFFFF0000FFFF0000,
	0xFFFFFFFF00000000,
}

func (t table) has(d int) bool { return t>>d&1 == 1 }

// least are those sets that have no other one within them.
func (t table) least() table {
	var more table
	for i, with := range having {
		more |= t &^ with << (1 << i)
	}
	return t &^ more
}

// tableau knows a formula by what it asks of a letter and of what comes next.
type tableau struct {
	letters int // those of the formula
	untils  []int
	root    int                 // a bit beside those of the parts: the formula
	asks    [][letterSets]table // of each part, if it is owed, and of the formula: with each set of letters
}

func newTableau(l *nodes.List, root int, parts []int) *tableau {
	t := &tableau{root: 1 << len(parts), asks: make([][letterSets]table, len(parts)+1)}
	within := l.Within(root)
	for _, id := range within {
		if n := l.At(id); n.Op == api.Prop {
			t.letters |= 1 << n.N
		}
	}
	number := make([]int, l.Len())
	for i, id := range parts {
		number[id] = i
		if l.At(id).Op == api.Until {
			t.untils = append(t.untils, i)
		}
	}
	tables := make([]table, l.Len())
	for x := range subsets(t.letters) {
		for _, id := range within {
			tables[id] = tableOf(l.At(id), x, number[id], tables)
		}
		for i, id := range parts {
			t.asks[i][x] = tables[owed(l, id)]
		}
		t.asks[len(parts)][x] = tables[root]
	}
	return t
}

// owed is what must be true next, where a part is owed: of X p that is p.
func owed(l *nodes.List, part int) int {
	if n := l.At(part); n.Op == api.Next {
		return n.Left
	}
	return part
}

// tableOf is the table of a plain Node with the letters x, of whose Kids there
// are tables. If it is a part, part is its number.
func tableOf(n nodes.Node, x, part int, tables []table) table {
	var a, b table
	if n.Left != nodes.None {
		a = tables[n.Left]
	}
	if n.Right != nodes.None {
		b = tables[n.Right]
	}
	switch n.Op {
	case api.True:
		return ^table(0)
	case api.Prop:
		return -table(x >> n.N & 1)
	case api.Not:
		return ^a // it is ahead of letters alone
	case api.And:
		return a & b
	case api.Or:
		return a | b
	case api.Next:
		return having[part]
	case api.Until:
		return b | a&having[part]
	case api.Release:
		return b & (a | having[part])
	}
	return 0
}

// subsets yields all sets within a set of bits.
func subsets(set int) iter.Seq[int] {
	return func(yield func(int) bool) {
		for sub := 0; yield(sub) && sub != set; sub = (sub - set) & set {
		}
	}
}

// label is what a State reads, and the parts that it owes to what comes next.
type label struct{ must, not, next int }

// free yields what a label reads beside its must.
func (t *tableau) free(l label) iter.Seq[int] { return subsets(t.letters &^ (l.must | l.not)) }

func count(set int) int { return bits.OnesCount(uint(set)) }

// chart is a table for each set of letters, and the least sets of each.
type chart struct{ all, least [letterSets]table }

// chart tells how all that is owed can be met: a set of parts, or the formula.
func (t *tableau) chart(owed int) *chart {
	var c chart
	for x := range subsets(t.letters) {
		c.all[x] = ^table(0)
		for i := range t.asks {
			if owed>>i&1 == 1 {
				c.all[x] &= t.asks[i][x]
			}
		}
		c.least[x] = c.all[x].least()
	}
	return &c
}

// labels are such that what is owed is met where one of them is read. Those that
// owe less stand first: who looks for a run from the front finds a short one.
func (t *tableau) labels(owed int) []label {
	c := t.chart(owed)
	var needed table
	for _, least := range c.least {
		needed |= least
	}
	var list []label
	for ; needed != 0; needed &= needed - 1 {
		list = append(list, t.cover(c, bits.TrailingZeros64(uint64(needed)))...)
	}
	slices.SortFunc(list, func(a, b label) int {
		return cmp.Or(cmp.Compare(count(a.next), count(b.next)), cmp.Compare(a.next, b.next),
			cmp.Compare(a.must, b.must), cmp.Compare(a.not, b.not))
	})
	return list
}

// cover are labels that owe next. They read all letters with which nothing less
// will do, and, so that they are few, others with which it will.
func (t *tableau) cover(c *chart, next int) []label {
	var list []label
	var covered [letterSets]bool
	for x := range subsets(t.letters) {
		if covered[x] || !c.least[x].has(next) {
			continue
		}
		l := label{must: x, not: t.letters &^ x, next: next}
		for bit := 1; bit <= t.letters; bit <<= 1 {
			wider := label{l.must &^ bit, l.not &^ bit, next}
			if t.allows(c, wider) {
				l = wider
			}
		}
		for more := range t.free(l) {
			covered[l.must|more] = true
		}
		list = append(list, l)
	}
	return list
}

// allows tells whether what a label owes will do with all that it reads.
func (t *tableau) allows(c *chart, l label) bool {
	for more := range t.free(l) {
		if !c.all[l.must|more].has(l.next) {
			return false
		}
	}
	return true
}

// automaton has a State for each label that is come to. Lists of what comes behind
// States that owe the same are the same memory.
func (t *tableau) automaton() api.Auto {
	var a api.Auto
	var labels []label
	numbers := map[label]int{}
	lists := map[int][]int{}
	states := func(owed int) []int {
		list, there := lists[owed]
		if there {
			return list
		}
		for _, l := range t.labels(owed) {
			n, there := numbers[l]
			if !there {
				n = len(labels)
				numbers[l] = n
				labels = append(labels, l)
			}
			list = append(list, n)
		}
		lists[owed] = list
		return list
	}
	a.First = states(t.root)
	for i := 0; i < len(labels); i++ {
		l := labels[i]
		a.States = append(a.States, api.State{Must: l.must, Not: l.not, To: states(l.next)})
	}
	for _, u := range t.untils {
		a.Goals = append(a.Goals, without(labels, u))
	}
	return a
}

// without are the numbers of those labels that do not owe a part.
func without(labels []label, part int) []int {
	var list []int
	for n, l := range labels {
		if l.next>>part&1 == 0 {
			list = append(list, n)
		}
	}
	return list
}
