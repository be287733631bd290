package word

import (
	"vigil/api"
	"vigil/nodes"
)

// letters are sets of the letters a to h, one behind the other.
type letters []int

// truths tell of each place of a word whether something is true there.
type truths []bool

// places are a word's places, and which of them its Loop begins at.
type places struct {
	letters
	loop int
}

func placesOf(w api.Word) places {
	all := make(letters, 0, len(w.Head)+len(w.Loop))
	all = append(all, w.Head...)
	return places{append(all, w.Loop...), len(w.Head)}
}

func (l letters) good() bool {
	for _, x := range l {
		if x < 0 || x > highest {
			return false
		}
	}
	return true
}

// fromEnd is the letter that many ahead of the last one, round and round.
func (l letters) fromEnd(n int) int { return l[len(l)-1-n%len(l)] }

// period is the length of the shortest beginning of which the letters are a
// repetition.
func (l letters) period() int {
	// same[i]: how many letters at the beginning are those that end with i, too.
	same := make([]int, len(l))
	for i := 1; i < len(l); i++ {
		n := same[i-1]
		for n > 0 && l[i] != l[n] {
			n = same[n-1]
		}
		if l[i] == l[n] {
			n++
		}
		same[i] = n
	}
	shift := len(l) - same[len(l)-1]
	if len(l)%shift != 0 {
		return len(l)
	}
	return shift
}

// where tells at which letters something is so.
func (l letters) where(is func(x int) bool) truths {
	row := make(truths, len(l))
	for i, x := range l {
		row[i] = is(x)
	}
	return row
}

// row tells where a Node is true, of whose Kids that is told by rows.
func (p places) row(n nodes.Node, rows []truths) truths {
	var a, b truths
	if n.Left != nodes.None {
		a = rows[n.Left]
	}
	if n.Right != nodes.None {
		b = rows[n.Right]
	}
	switch n.Op {
	case api.True:
		return p.where(func(int) bool { return true })
	case api.Prop:
		return p.where(func(x int) bool { return x>>n.N&1 == 1 })
	case api.Not:
		return a.join(a, func(v, _ bool) bool { return !v })
	case api.And:
		return a.join(b, func(v, w bool) bool { return v && w })
	case api.Or:
		return a.join(b, func(v, w bool) bool { return v || w })
	case api.Implies:
		return a.join(b, func(v, w bool) bool { return !v || w })
	case api.Next:
		return a.next(p.loop)
	case api.Until:
		return a.back(b, p.loop, false, func(v, w, later bool) bool { return w || v && later })
	case api.Release:
		return a.back(b, p.loop, true, func(v, w, later bool) bool { return w && (v || later) })
	case api.Finally:
		return a.back(a, p.loop, false, func(_, w, later bool) bool { return w || later })
	case api.Globally:
		return a.back(a, p.loop, true, func(_, w, later bool) bool { return w && later })
	}
	return p.where(func(int) bool { return false })
}

// join tells something of two rows, place by place.
func (t truths) join(other truths, by func(v, w bool) bool) truths {
	row := make(truths, len(t))
	for i := range row {
		row[i] = by(t[i], other[i])
	}
	return row
}

// next is the row one place later; the Loop's first place is behind the last one.
func (t truths) next(loop int) truths {
	row := make(truths, len(t))
	copy(row, t[1:])
	row[len(row)-1] = t[loop]
	return row
}

// back tells what hangs on two rows here and on itself one place later. It goes
// through the places from the end, first as if endless waiting were answered by
// start, and then once more with what it found at the Loop's beginning: what is
// not decided in one round of the Loop never is.
func (t truths) back(other truths, loop int, start bool, step func(v, w, later bool) bool) truths {
	row := make(truths, len(t))
	later := start
	for range 2 {
		for i := len(row) - 1; i >= 0; i-- {
			later = step(t[i], other[i], later)
			row[i] = later
		}
		later = row[loop]
	}
	return row
}
