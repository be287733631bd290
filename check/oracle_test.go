package check

import (
	"math/rand"
	"slices"
	"strconv"

	"vigil/api"
	"vigil/ltl"
)

func leaf(op, n int) api.Form { return api.Form{Op: op, N: n} }

func form(op int, kids ...api.Form) api.Form { return api.Form{Op: op, Kids: kids} }

func not(f api.Form) api.Form { return form(api.Not, f) }

// apart is the formula of J3.
func apart(f, g api.Form) api.Form {
	return form(api.Or, form(api.And, f, not(g)), form(api.And, not(f), g))
}

// anyForm has letters below a number, and at most depth Kids above each other.
func anyForm(r *rand.Rand, depth, letters int) api.Form {
	op := r.Intn(api.Globally + 1)
	if depth == 0 {
		op = []int{api.True, api.False, api.Prop, api.Prop, api.Prop, api.Prop}[r.Intn(6)]
	}
	switch op {
	case api.True, api.False:
		return leaf(op, 0)
	case api.Prop:
		return leaf(op, r.Intn(letters))
	case api.Not, api.Next, api.Finally, api.Globally:
		return form(op, anyForm(r, depth-1, letters))
	}
	return form(op, anyForm(r, depth-1, letters), anyForm(r, depth-1, letters))
}

func anyModel(r *rand.Rand, letters int) api.Model {
	n := 1 + r.Intn(5)
	var m api.Model
	for s := range n {
		m.Names = append(m.Names, "s"+strconv.Itoa(s))
		m.Letters = append(m.Letters, r.Intn(1<<letters))
		m.To = append(m.To, r.Perm(n)[:1+r.Intn(1+r.Intn(n))])
	}
	return m
}

// system is what letters may come, one behind the other.
type system struct {
	letters []int
	to      [][]int
	first   []int
}

func systemOf(m api.Model) system { return system{m.Letters, m.To, []int{0}} }

// anything is where all letters may come, whatever came.
func anything(letters int) system {
	var s system
	for x := range 1 << letters {
		s.letters = append(s.letters, x)
		s.first = append(s.first, x)
	}
	for range s.letters {
		s.to = append(s.to, s.first)
	}
	return s
}

// guess is a state, and which Parts of a formula are true there, as bits.
type guess struct{ state, parts int }

// judge knows a formula by its Parts.
type judge struct {
	system
	parts   []api.Form
	number  map[string]int
	guesses []guess
	kids    [][][]bool // of each part and guess: which Kids are true there
}

func newJudge(s system, f api.Form) judge {
	j := judge{system: s, parts: ltl.Parts(f), number: map[string]int{}}
	for i, p := range j.parts {
		j.number[ltl.Print(p)] = i
	}
	for state := range s.letters {
		for parts := range 1 << len(j.parts) {
			j.guesses = append(j.guesses, guess{state, parts})
		}
	}
	for _, p := range j.parts {
		var rows [][]bool
		for _, g := range j.guesses {
			var row []bool
			for _, kid := range p.Kids {
				row = append(row, j.holds(kid, g))
			}
			rows = append(rows, row)
		}
		j.kids = append(j.kids, rows)
	}
	return j
}

// holds tells whether a plain formula is true where a guess is right.
func (j judge) holds(f api.Form, g guess) bool {
	switch f.Op {
	case api.True:
		return true
	case api.Prop:
		return j.letters[g.state]>>f.N&1 == 1
	case api.Not:
		return !j.holds(f.Kids[0], g)
	case api.And:
		return j.holds(f.Kids[0], g) && j.holds(f.Kids[1], g)
	case api.Or:
		return j.holds(f.Kids[0], g) || j.holds(f.Kids[1], g)
	case api.Next, api.Until, api.Release:
		return g.parts>>j.number[ltl.Print(f)]&1 == 1
	}
	return false
}

// follows tells whether guess number h may come behind number g: B2, step by step.
func (j judge) follows(g, h int) bool {
	if !slices.Contains(j.to[j.guesses[g].state], j.guesses[h].state) {
		return false
	}
	for i, p := range j.parts {
		now, later := j.guesses[g].parts>>i&1 == 1, j.guesses[h].parts>>i&1 == 1
		here, there := j.kids[i][g], j.kids[i][h]
		var want bool
		switch p.Op {
		case api.Next:
			want = there[0]
		case api.Until:
			want = here[1] || here[0] && later
		case api.Release:
			want = here[1] && (here[0] || later)
		}
		if now != want {
			return false
		}
	}
	return true
}

// bitsets are rows of bits.
type bitsets [][]uint64

func (b bitsets) has(i, k int) bool { return b[i][k/64]>>(k%64)&1 == 1 }

// close tells of all what one or more steps lead to.
func (b bitsets) close() {
	for mid := range b {
		for i := range b {
			if b.has(i, mid) {
				for w := range b[i] {
					b[i][w] |= b[mid][w]
				}
			}
		}
	}
}

// some tells whether a formula is true somewhere at the beginning of a system:
// guesses lead to each other for ever, and no Until waits in all of them.
func some(s system, f api.Form) bool {
	j := newJudge(s, f)
	behind := make(bitsets, len(j.guesses))
	for g := range j.guesses {
		behind[g] = make([]uint64, len(j.guesses)/64+1)
		for h := range j.guesses {
			if j.follows(g, h) {
				behind[g][h/64] |= 1 << (h % 64)
			}
		}
	}
	behind.close()
	plain := ltl.Plain(f)
	var begins []int
	for i, g := range j.guesses {
		if slices.Contains(s.first, g.state) && j.holds(plain, g) {
			begins = append(begins, i)
		}
	}
	for i := range j.guesses {
		reached := func(b int) bool { return b == i || behind.has(b, i) }
		if behind.has(i, i) && slices.ContainsFunc(begins, reached) && j.waitsNowhere(behind, i) {
			return true
		}
	}
	return false
}

// waitsNowhere tells whether no Until waits in all guesses that lead to number i,
// and that it leads to.
func (j judge) waitsNowhere(behind bitsets, i int) bool {
	for n, p := range j.parts {
		if p.Op != api.Until {
			continue
		}
		ends := false
		for k, g := range j.guesses {
			ends = ends || behind.has(i, k) && behind.has(k, i) && (g.parts>>n&1 == 0 || j.kids[n][k][1])
		}
		if !ends {
			return false
		}
	}
	return true
}
