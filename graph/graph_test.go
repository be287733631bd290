package graph

import (
	"iter"
	"math/rand"
	"runtime/debug"
	"slices"
	"testing"
)

// listGraph leads along lists. It tells numbers only if it is numbered.
func listGraph(first []int, to [][]int, numbered bool) Graph[int] {
	g := Graph[int]{
		First: slices.Values(first),
		Next: func(n, from int) iter.Seq2[int, int] {
			return func(yield func(int, int) bool) {
				for place := from; place < len(to[n]); place++ {
					if !yield(place, to[n][place]) {
						return
					}
				}
			}
		},
	}
	if numbered {
		g.Number, g.Size = func(n int) int { return n }, len(to)
	}
	return g
}

// reach tells which nodes one or more steps lead to.
func reach(to [][]int) [][]bool {
	r := make([][]bool, len(to))
	for n := range to {
		r[n] = make([]bool, len(to))
		for _, m := range to[n] {
			r[n][m] = true
		}
	}
	for mid := range to {
		for n := range to {
			for m := range to {
				r[n][m] = r[n][m] || r[n][mid] && r[mid][m]
			}
		}
	}
	return r
}

func anyLists(r *rand.Rand, n int) [][]int {
	to := make([][]int, n)
	for i := range to {
		for range r.Intn(4) {
			to[i] = append(to[i], r.Intn(n))
		}
	}
	return to
}

func TestComponentsOfAny(t *testing.T) {
	r := rand.New(rand.NewSource(1))
	for round := range 5000 {
		to := anyLists(r, 1+r.Intn(9))
		first := []int{r.Intn(len(to)), r.Intn(len(to)), r.Intn(len(to))}
		behind := reach(to)
		g := listGraph(first, to, round%2 == 0)
		number := make([]int, len(to))
		count := 0
		for part := range g.Components() {
			count++
			for _, n := range part {
				if number[n] != 0 {
					t.Fatalf("%v from %v: %d comes twice", to, first, n)
				}
				number[n] = count
			}
			if g.Around(part) != behind[part[0]][part[0]] {
				t.Fatalf("%v from %v: %v goes around: %v", to, first, part, g.Around(part))
			}
		}
		for n := range to {
			reached := slices.ContainsFunc(first, func(f int) bool { return f == n || behind[f][n] })
			if reached != (number[n] > 0) {
				t.Fatalf("%v from %v: %d is reached: %v", to, first, n, reached)
			}
			for m := range to {
				if n == m || number[n] == 0 || number[m] == 0 {
					continue
				}
				if behind[n][m] && number[m] > number[n] {
					t.Fatalf("%v from %v: the part of %d comes ahead of that of %d, which it leads to", to, first, n, m)
				}
				if (behind[n][m] && behind[m][n]) != (number[n] == number[m]) {
					t.Fatalf("%v from %v: %d and %d", to, first, n, m)
				}
			}
		}
	}
}

func TestComponentsStop(t *testing.T) {
	g := listGraph([]int{0, 1, 2}, [][]int{{1}, {2}, {}}, true)
	var seen []int
	for part := range g.Components() {
		seen = append(seen, part...)
		if len(seen) == 2 {
			break
		}
	}
	if !slices.Equal(seen, []int{2, 1}) {
		t.Errorf("%v", seen)
	}
	for range listGraph(nil, nil, true).Components() {
		t.Error("a part of nothing")
	}
}

// TestEachStepOnce: however often the search comes back to a node.
func TestEachStepOnce(t *testing.T) {
	const wide = 1000
	to := make([][]int, wide+1)
	for i := range wide {
		to[0] = append(to[0], i+1)
		to[i+1] = []int{0}
	}
	g := listGraph([]int{0}, to, false)
	next, steps := g.Next, 0
	g.Next = func(n, from int) iter.Seq2[int, int] {
		return func(yield func(int, int) bool) {
			for place, m := range next(n, from) {
				steps++
				if !yield(place, m) {
					return
				}
			}
		}
	}
	for part := range g.Components() {
		if len(part) != wide+1 {
			t.Errorf("a part of %d", len(part))
		}
	}
	if steps != 2*wide {
		t.Errorf("%d steps", steps)
	}
}

func TestDeep(t *testing.T) {
	defer debug.SetMaxStack(debug.SetMaxStack(1 << 16))
	const deep = 300000
	to := make([][]int, deep)
	for i := range to {
		to[i] = []int{(i + 1) % deep}
	}
	for _, numbered := range []bool{false, true} {
		parts := 0
		for part := range listGraph([]int{0}, to, numbered).Components() {
			parts++
			if len(part) != deep {
				t.Errorf("a part of %d", len(part))
			}
		}
		if parts != 1 {
			t.Errorf("%d parts", parts)
		}
	}
}

func TestTooManyNumbersForAList(t *testing.T) {
	g := listGraph([]int{5}, [][]int{5: {5}}, true)
	g.Size = 1 << 60
	for part := range g.Components() {
		if !slices.Equal(part, []int{5}) || !g.Around(part) {
			t.Errorf("%v", part)
		}
	}
}

// distances are how many nodes the shortest ways from first to each have; 0 where
// there is none.
func distances(first []int, to [][]int) []int {
	far := make([]int, len(to))
	for n := range far {
		if slices.Contains(first, n) {
			far[n] = 1
		}
	}
	for range to {
		for n := range to {
			for _, m := range to[n] {
				if far[n] > 0 && (far[m] == 0 || far[m] > far[n]+1) {
					far[m] = far[n] + 1
				}
			}
		}
	}
	return far
}

func TestNearest(t *testing.T) {
	r := rand.New(rand.NewSource(2))
	for range 3000 {
		to := anyLists(r, 1+r.Intn(9))
		first := []int{r.Intn(len(to)), r.Intn(len(to))}[:r.Intn(3)]
		wanted := []int{r.Intn(len(to)), r.Intn(len(to))}[:r.Intn(3)]
		g := listGraph(first, to, true)
		shortest := 0
		for _, n := range wanted {
			if far := distances(first, to)[n]; far > 0 && (shortest == 0 || far < shortest) {
				shortest = far
			}
		}
		back := []*Step[int]{nil, {Node: -1, Back: &Step[int]{Node: -2}}}[r.Intn(2)]
		s := Nearest(back, g.First, g.Behind, func(n int) bool { return slices.Contains(wanted, n) })
		if shortest == 0 {
			if s != nil {
				t.Fatalf("%v from %v to %v: %v", to, first, wanted, s.Way())
			}
			continue
		}
		way, ahead := s.Way(), back.Way()
		if !slices.Equal(way[:len(ahead)], ahead) {
			t.Fatalf("%v is not behind %v", way, ahead)
		}
		way = way[len(ahead):]
		if len(way) != shortest || !slices.Contains(first, way[0]) || !slices.Contains(wanted, s.Node) {
			t.Fatalf("%v from %v to %v: %v", to, first, wanted, way)
		}
		for i := range way[1:] {
			if !slices.Contains(to[way[i]], way[i+1]) {
				t.Fatalf("%v from %v to %v: %v", to, first, wanted, way)
			}
		}
	}
}

// TestNearestLooksNoFurther: than it must.
func TestNearestLooksNoFurther(t *testing.T) {
	g := listGraph([]int{0, 1}, [][]int{{2}, {3}, {3}, {0}}, true)
	var asked []int
	s := Nearest(nil, g.First, func(n int) iter.Seq[int] {
		asked = append(asked, n)
		return g.Behind(n)
	}, func(n int) bool { return n == 3 })
	if !slices.Equal(s.Way(), []int{1, 3}) || !slices.Equal(asked, []int{0, 1, 2}) {
		t.Errorf("%v by %v", s.Way(), asked)
	}
}
