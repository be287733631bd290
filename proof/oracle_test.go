package proof

import (
	"math/rand"
	"slices"
	"strconv"

	"vigil/api"
	"vigil/ltl"
	"vigil/model"
)

func leaf(op, n int) api.Form { return api.Form{Op: op, N: n} }

func form(op int, kids ...api.Form) api.Form { return api.Form{Op: op, Kids: kids} }

func not(f api.Form) api.Form { return form(api.Not, f) }

// anyForm has letters below a number, and at most depth Kids above each other.
func anyForm(r *rand.Rand, depth, letters int) api.Form {
	op := r.Intn(api.Globally + 1)
	if depth == 0 {
		op = []int{api.True, api.False, api.Prop, api.Prop, api.Prop, api.Prop}[r.Intn(6)]
	}
	switch op {
	case api.True, api.False:
		return leaf(op, 0)
	case api.Prop:
		return leaf(op, r.Intn(letters))
	case api.Not, api.Next, api.Finally, api.Globally:
		return form(op, anyForm(r, depth-1, letters))
	}
	return form(op, anyForm(r, depth-1, letters), anyForm(r, depth-1, letters))
}

// someParts is a formula with so many Parts.
func someParts(r *rand.Rand, letters, least, most int) api.Form {
	for {
		f := anyForm(r, r.Intn(6), letters)
		if n := len(ltl.Parts(f)); least <= n && n <= most {
			return f
		}
	}
}

func anyModel(r *rand.Rand, letters, states int) api.Model {
	n := 1 + r.Intn(states)
	var m api.Model
	for s := range n {
		m.Names = append(m.Names, "s"+strconv.Itoa(s))
		m.Letters = append(m.Letters, r.Intn(1<<letters))
		m.To = append(m.To, r.Perm(n)[:1+r.Intn(1+r.Intn(n))])
	}
	return m
}

// judge is K1 by its words.
type judge struct {
	api.Model
	plain  api.Form
	parts  []api.Form
	number map[string]int
}

func judgeOf(m api.Model, f api.Form) judge {
	j := judge{Model: m, plain: ltl.Plain(not(f)), parts: ltl.Parts(not(f)), number: map[string]int{}}
	for i, p := range j.parts {
		j.number[ltl.Print(p)] = i
	}
	return j
}

func (j judge) choices() int { return 1 << len(j.parts) }

// says tells whether a choice says that a part is true.
func says(choice, part int) bool { return choice>>part&1 == 1 }

// isTrue tells whether a plain formula is true with a letter and a choice.
func (j judge) isTrue(f api.Form, letter, choice int) bool {
	switch f.Op {
	case api.True:
		return true
	case api.False:
		return false
	case api.Prop:
		return letter>>f.N&1 == 1
	case api.Not:
		return !j.isTrue(f.Kids[0], letter, choice)
	case api.And:
		return j.isTrue(f.Kids[0], letter, choice) && j.isTrue(f.Kids[1], letter, choice)
	case api.Or:
		return j.isTrue(f.Kids[0], letter, choice) || j.isTrue(f.Kids[1], letter, choice)
	}
	return says(choice, j.number[ltl.Print(f)])
}

// step tells whether one leads from s with c to t with d.
func (j judge) step(s, c, t, d int) bool {
	if !slices.Contains(j.To[s], t) {
		return false
	}
	for i, part := range j.parts {
		kid := func(k, state, choice int) bool { return j.isTrue(part.Kids[k], j.Letters[state], choice) }
		var want bool
		switch part.Op {
		case api.Next:
			want = kid(0, t, d)
		case api.Until:
			want = kid(1, s, c) || kid(0, s, c) && says(d, i)
		case api.Release:
			want = kid(1, s, c) && (kid(0, s, c) || says(d, i))
		}
		if says(c, i) != want {
			return false
		}
	}
	return true
}

// valid is K2 by its words.
func (j judge) valid(l []api.Entry) bool {
	if !model.Good(j.Model) || len(j.parts) > 6 {
		return false
	}
	for i, e := range l {
		same := func(o api.Entry) bool { return o.State == e.State && o.Set == e.Set }
		if e.State < 0 || e.State >= len(j.Names) || e.Set < 0 || e.Set >= j.choices() || e.Rank < 0 || slices.ContainsFunc(l[:i], same) {
			return false
		}
	}
	entry := func(state, set int) (api.Entry, bool) {
		i := slices.IndexFunc(l, func(e api.Entry) bool { return e.State == state && e.Set == set })
		if i < 0 {
			return api.Entry{}, false
		}
		return l[i], true
	}
	for c := range j.choices() {
		if _, there := entry(0, c); j.isTrue(j.plain, j.Letters[0], c) && !there {
			return false
		}
	}
	for _, e := range l {
		for t := range j.Names {
			for d := range j.choices() {
				if !j.step(e.State, e.Set, t, d) {
					continue
				}
				if next, there := entry(t, d); !there || !j.follows(e, next) {
					return false
				}
			}
		}
	}
	return true
}

func (j judge) follows(e, next api.Entry) bool {
	if next.Rank < e.Rank {
		return true
	}
	if next.Rank != e.Rank || next.Which != e.Which || next.Which < 0 || next.Which >= len(j.parts) {
		return false
	}
	part := j.parts[next.Which]
	return part.Op == api.Until && says(next.Set, next.Which) && !j.isTrue(part.Kids[1], j.Letters[next.State], next.Set)
}
