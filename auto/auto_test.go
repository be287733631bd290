package auto

import (
	"math/rand"
	"reflect"
	"runtime/debug"
	"slices"
	"testing"

	"vigil/api"
	"vigil/word"
)

// reads is D1 by its words.
func reads(s api.State, x int) bool {
	return 0 <= x && x <= 255 && x&s.Must == s.Must && x&s.Not == 0
}

// node is a State at a place of a word.
type node struct{ state, place int }

// accepted is whether there is an accepted run, by going through all nodes of
// which step tells that one is behind the other. Where nodes lead to each other
// for ever, a run can have all of them endlessly often.
func accepted(a api.Auto, nodes []node, first func(n node) bool, step func(n, m node) bool) bool {
	behind := make([][]bool, len(nodes))
	for i, n := range nodes {
		behind[i] = make([]bool, len(nodes))
		for k, m := range nodes {
			behind[i][k] = slices.Contains(a.States[n.state].To, m.state) && step(n, m)
		}
	}
	for mid := range nodes {
		for i := range nodes {
			for k := range nodes {
				behind[i][k] = behind[i][k] || behind[i][mid] && behind[mid][k]
			}
		}
	}
	for i := range nodes {
		begun := false
		for k, n := range nodes {
			begun = begun || slices.Contains(a.First, n.state) && first(n) && (i == k || behind[k][i])
		}
		met := 0
		for _, goal := range a.Goals {
			for k, n := range nodes {
				if slices.Contains(goal, n.state) && behind[i][k] && behind[k][i] {
					met++
					break
				}
			}
		}
		if begun && behind[i][i] && met == len(a.Goals) {
			return true
		}
	}
	return false
}

// acceptsByWords is Accepts of a good word.
func acceptsByWords(a api.Auto, w api.Word) bool {
	places := len(w.Head) + len(w.Loop)
	var nodes []node
	for s := range a.States {
		for p := range places {
			if reads(a.States[s], word.At(w, p)) {
				nodes = append(nodes, node{s, p})
			}
		}
	}
	next := func(p int) int {
		if p+1 == places {
			return len(w.Head)
		}
		return p + 1
	}
	return accepted(a, nodes, func(n node) bool { return n.place == 0 }, func(n, m node) bool { return m.place == next(n.place) })
}

// emptyByWords is Empty.
func emptyByWords(a api.Auto) bool {
	var nodes []node
	for s := range a.States {
		for x := range 256 {
			if reads(a.States[s], x) {
				nodes = append(nodes, node{s, 0})
				break
			}
		}
	}
	any := func(node) bool { return true }
	return !accepted(a, nodes, any, func(node, node) bool { return true })
}

func numbers(r *rand.Rand, n, below int) []int {
	var l []int
	for range n {
		l = append(l, r.Intn(below))
	}
	return l
}

// strange puts in numbers that are no State's.
func strange(r *rand.Rand, l []int, n int) []int {
	if r.Intn(4) > 0 {
		return l
	}
	return append(l, []int{-1, n, n + 7, 1 << 40, -1 << 63, 1<<63 - 1}[r.Intn(6)])
}

func anyAuto(r *rand.Rand) api.Auto {
	var a api.Auto
	n := r.Intn(6)
	list := func(most int) []int {
		if n == 0 {
			return strange(r, nil, n)
		}
		return strange(r, numbers(r, r.Intn(most+1), n), n)
	}
	for range n {
		s := api.State{Must: r.Intn(4) & r.Intn(4) & r.Intn(4), Not: r.Intn(4) & r.Intn(4) & r.Intn(4), To: list(5)}
		switch r.Intn(20) {
		case 0:
			s.Must |= []int{256, -1, 1 << 40, -1 << 63, 128}[r.Intn(5)]
		case 1:
			s.Not |= []int{256, -1, -256, 1 << 40, -1 << 63, 252}[r.Intn(6)]
		}
		a.States = append(a.States, s)
	}
	a.First = list(4)
	for range r.Intn(4) {
		a.Goals = append(a.Goals, list(5))
	}
	return a
}

func anyWord(r *rand.Rand, below int) api.Word {
	return api.Word{Head: numbers(r, r.Intn(4), below), Loop: numbers(r, 1+r.Intn(4), below)}
}

func copied(a api.Auto) api.Auto {
	b := api.Auto{First: slices.Clone(a.First)}
	for _, s := range a.States {
		s.To = slices.Clone(s.To)
		b.States = append(b.States, s)
	}
	for _, g := range a.Goals {
		b.Goals = append(b.Goals, slices.Clone(g))
	}
	return b
}

func TestAcceptsOfAny(t *testing.T) { // D1
	r := rand.New(rand.NewSource(1))
	yes := 0
	for range 20000 {
		a, w := anyAuto(r), anyWord(r, 4)
		before, word := copied(a), api.Word{Head: slices.Clone(w.Head), Loop: slices.Clone(w.Loop)}
		want := acceptsByWords(a, w)
		if got := Accepts(a, w); got != want {
			t.Fatalf("%+v of %v: %v", a, w, got)
		}
		if !reflect.DeepEqual(a, before) || !reflect.DeepEqual(w, word) {
			t.Fatalf("%+v of %v: changed", a, w)
		}
		if want {
			yes++
		}
	}
	if yes < 2000 || yes > 18000 {
		t.Errorf("%d of 20000 are accepted", yes)
	}
}

func TestAccepts(t *testing.T) { // D1
	one := func(s api.State, goals ...[]int) api.Auto {
		s.To = []int{0}
		return api.Auto{States: []api.State{s}, First: []int{0}, Goals: goals}
	}
	for name, c := range map[string]struct {
		a    api.Auto
		w    api.Word
		want bool
	}{
		"no Goals":                  {one(api.State{}), api.Word{Loop: []int{0, 255}}, true},
		"a Goal without States":     {one(api.State{}, []int{0}, nil), api.Word{Loop: []int{0}}, false},
		"a Goal of what is none":    {one(api.State{}, []int{1, -1}), api.Word{Loop: []int{0}}, false},
		"all bits":                  {one(api.State{Must: 255}), api.Word{Loop: []int{255}}, true},
		"one bit is not there":      {one(api.State{Must: 255}), api.Word{Loop: []int{255, 254}}, false},
		"no bits":                   {one(api.State{Not: 255}), api.Word{Loop: []int{0}}, true},
		"a bit that shall not be":   {one(api.State{Not: 128}), api.Word{Head: []int{128}, Loop: []int{0}}, false},
		"a Must that nothing has":   {one(api.State{Must: 256}), api.Word{Loop: []int{255}}, false},
		"a Must below 0":            {one(api.State{Must: -1}), api.Word{Loop: []int{255}}, false},
		"a Not that nothing has":    {one(api.State{Not: -256}), api.Word{Loop: []int{255}}, true},
		"a Not below 0":             {one(api.State{Not: -1}), api.Word{Loop: []int{0}}, true},
		"no First":                  {api.Auto{States: one(api.State{}).States}, api.Word{Loop: []int{0}}, false},
		"no States":                 {api.Auto{First: []int{0}}, api.Word{Loop: []int{0}}, false},
		"nothing":                   {api.Auto{}, api.Word{Loop: []int{0}}, false},
		"only in the Head":          {api.Auto{States: []api.State{{To: []int{1}}, {To: []int{1}}}, First: []int{0}, Goals: [][]int{{0}}}, api.Word{Head: []int{0}, Loop: []int{0}}, false},
		"two Goals, never both":     {api.Auto{States: []api.State{{To: []int{0, 1}}, {To: []int{1}}}, First: []int{0}, Goals: [][]int{{0}, {1}}}, api.Word{Loop: []int{0}}, false},
		"two Goals, one State":      {one(api.State{}, []int{0}, []int{0, 0}), api.Word{Loop: []int{7}}, true},
		"every other letter":        {api.Auto{States: []api.State{{Must: 1, To: []int{1}}, {To: []int{0}}}, First: []int{0}}, api.Word{Loop: []int{1, 0, 1, 1}}, true},
		"every other, an odd Loop":  {api.Auto{States: []api.State{{Must: 1, To: []int{1}}, {To: []int{0}}}, First: []int{0}}, api.Word{Loop: []int{1, 0, 1}}, false},
		"every other, an odd Loop2": {api.Auto{States: []api.State{{Must: 1, To: []int{1}}, {To: []int{0}}}, First: []int{0}}, api.Word{Head: []int{1, 0, 1}, Loop: []int{1, 1, 1}}, true},
	} {
		if got := Accepts(c.a, c.w); got != c.want {
			t.Errorf("%s: %v", name, got)
		}
	}
}

func TestWrongWords(t *testing.T) { // D1
	all := api.Auto{States: []api.State{{To: []int{0}}}, First: []int{0}}
	for name, w := range map[string]api.Word{
		"nothing":       {},
		"an empty Loop": {Head: []int{1}, Loop: []int{}},
		"below 0":       {Loop: []int{-1}},
		"above 255":     {Head: []int{256}, Loop: []int{0}},
		"too long":      {Head: make([]int, 10000), Loop: make([]int, 10001)},
	} {
		if Accepts(all, w) {
			t.Errorf("%s is accepted", name)
		}
	}
	if !Accepts(all, api.Word{Head: make([]int, 10000), Loop: make([]int, 10000)}) {
		t.Error("the longest one is not accepted")
	}
}

func TestEmptyOfAny(t *testing.T) { // D2
	r := rand.New(rand.NewSource(2))
	count := 0
	for range 20000 {
		a := anyAuto(r)
		before := copied(a)
		want := emptyByWords(a)
		if got := Empty(a); got != want {
			t.Fatalf("%+v: %v", a, got)
		}
		if !reflect.DeepEqual(a, before) {
			t.Fatalf("%+v: changed", a)
		}
		if want {
			count++
			if w := anyWord(r, 4); Accepts(a, w) {
				t.Fatalf("%+v is empty, but accepts %v", a, w)
			}
		}
	}
	if count < 2000 || count > 18000 {
		t.Errorf("%d of 20000 are empty", count)
	}
}

// TestEmptyAgainstWords: two States can go through all their Goals in a Loop of
// two letters, behind a Head of one.
func TestEmptyAgainstWords(t *testing.T) { // D1, D2
	var words []api.Word
	for x := range 64 {
		words = append(words, api.Word{Head: []int{x % 4}, Loop: []int{x / 4 % 4, x / 16}}, api.Word{Loop: []int{x % 4, x / 4 % 4}})
	}
	r := rand.New(rand.NewSource(3))
	for range 3000 {
		a := anyAuto(r)
		if len(a.States) > 2 {
			continue
		}
		for i := range a.States { // so that four letters will do
			a.States[i].Must &= 3
			a.States[i].Not &= 3
		}
		some := slices.ContainsFunc(words, func(w api.Word) bool { return Accepts(a, w) })
		if Empty(a) == some {
			t.Fatalf("%+v: empty is %v, a word is %v", a, Empty(a), some)
		}
	}
}

func TestManyStates(t *testing.T) { // D1, D2: any length, without calls within calls
	defer debug.SetMaxStack(debug.SetMaxStack(1 << 16))
	const many = 200000
	chain := api.Auto{First: []int{0}, Goals: [][]int{{many - 1}}}
	for s := range many {
		chain.States = append(chain.States, api.State{To: []int{s + 1}})
	}
	w := api.Word{Loop: make([]int, 20000)}
	w.Loop[0] = 1
	if !Empty(chain) || Accepts(chain, w) {
		t.Error("a chain that ends")
	}
	chain.States[many-1].To = []int{many - 1}
	if Empty(chain) || !Accepts(chain, w) {
		t.Error("a chain that stays at its end")
	}
	chain.States[many-1].To = []int{0}
	if Empty(chain) || !Accepts(chain, api.Word{Loop: []int{1}}) {
		t.Error("a ring")
	}
	chain.States[many-1].Must = 2
	if Empty(chain) || Accepts(chain, api.Word{Loop: []int{1}}) {
		t.Error("a ring with one State that does not read")
	}
}

func TestLongLists(t *testing.T) { // D1, D2
	const many = 100000
	a := api.Auto{States: []api.State{{To: make([]int, many)}, {}}, First: make([]int, many)}
	for range many {
		a.Goals = append(a.Goals, []int{1, 0, 0})
	}
	w := api.Word{Loop: make([]int, 20000)}
	w.Loop[1] = 1
	if Empty(a) || !Accepts(a, w) {
		t.Error("many times the same")
	}
	a.Goals = append(a.Goals, []int{1})
	if !Empty(a) || Accepts(a, w) {
		t.Error("many Goals, and one that is not met")
	}
}

func TestLongWord(t *testing.T) { // D1
	r := rand.New(rand.NewSource(4))
	a := api.Auto{First: []int{0}, Goals: [][]int{{1}, {2}}}
	for range 20 {
		a.States = append(a.States, api.State{Must: 1 << r.Intn(8) & r.Intn(256), To: numbers(r, 6, 20)})
	}
	a.States[0] = api.State{To: []int{0, 1}}
	a.States[1] = api.State{Must: 1, To: []int{2, 0}}
	a.States[2] = api.State{Must: 2, To: []int{0}}
	w := api.Word{Head: numbers(r, 10000, 256), Loop: numbers(r, 10000, 256)}
	if !Accepts(a, w) {
		t.Error("a long word is not accepted")
	}
	for i := range w.Loop {
		w.Loop[i] &^= 2
	}
	if a.States = a.States[:3]; Accepts(a, w) {
		t.Error("a long word is accepted")
	}
}
