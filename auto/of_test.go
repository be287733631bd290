package auto

import (
	"math/rand"
	"reflect"
	"runtime/debug"
	"slices"
	"testing"

	"vigil/api"
	"vigil/ltl"
	"vigil/word"
)

func leaf(op, n int) api.Form { return api.Form{Op: op, N: n} }

func form(op int, kids ...api.Form) api.Form { return api.Form{Op: op, Kids: kids} }

func parsed(t *testing.T, s string) api.Form {
	f, e, at := ltl.Parse(s)
	if e != api.OK {
		t.Fatalf("%q: %d, %d", s, e, at)
	}
	return f
}

// anyForm has letters below a number, and at most depth Kids above each other.
func anyForm(r *rand.Rand, depth, letters int) api.Form {
	op := r.Intn(api.Globally + 1)
	if depth == 0 {
		op = []int{api.True, api.False, api.Prop, api.Prop, api.Prop, api.Prop}[r.Intn(6)]
	}
	switch op {
	case api.True, api.False:
		return leaf(op, 0)
	case api.Prop:
		return leaf(op, r.Intn(letters))
	case api.Not, api.Next, api.Finally, api.Globally:
		return form(op, anyForm(r, depth-1, letters))
	}
	return form(op, anyForm(r, depth-1, letters), anyForm(r, depth-1, letters))
}

// sameWords fails where the automaton of f does not accept just what f holds in.
func sameWords(t *testing.T, f api.Form, a api.Auto, words []api.Word) {
	t.Helper()
	for _, w := range words {
		if got := Accepts(a, w); got != word.Holds(f, w) {
			t.Fatalf("%s in %v: accepted is %v; %+v", ltl.Print(f), w, got, a)
		}
	}
}

// shortWords are all words of the letters a and b with at most 2 in Head and 3
// in Loop.
func shortWords() []api.Word {
	lists := [][][]int{{nil}}
	for n := range 3 {
		var longer [][]int
		for _, l := range lists[n] {
			for x := range 4 {
				longer = append(longer, append(slices.Clone(l), x))
			}
		}
		lists = append(lists, longer)
	}
	var words []api.Word
	for _, head := range slices.Concat(lists[0], lists[1], lists[2]) {
		for _, loop := range slices.Concat(lists[1], lists[2], lists[3]) {
			words = append(words, api.Word{Head: head, Loop: loop})
		}
	}
	return words
}

func TestOf(t *testing.T) { // D3
	words := shortWords()
	for _, s := range []string{
		"true", "false", "a", "!a", "a & b", "a | !b", "a -> b", "a & !a", "a | !a",
		"X a", "X true", "X false", "X X a", "!X a", "X a | X b", "X(a | b) & !X a",
		"a U b", "a R b", "F a", "G a", "!(a U b)", "!(a R b)", "F true", "F false", "G true", "G false",
		"true U a", "false U a", "a U false", "a U true", "a U a", "true R a", "false R a", "a R false", "a R true", "a R a",
		"a U X a", "X(a U b) & F b", "(X F a) & !F a", "(X(a U b)) & (a U b)",
		"G F a", "F G a", "G F a & G F !a", "F G a | F G !a", "G F a -> G F b", "F G a & G F !a", "G F(a & X b)",
		"G(a -> X b)", "G(a -> F b)", "(a U b) | G a", "(a U b) U a", "a U (b U a)", "(a R b) R a", "a R (b R a)", "(a U b) R (b U a)",
		"G(a -> X(!a U b))", "F(a & X(a & X a))", "X X X X X X a", "G(a | X G b)", "(F(a & F b)) & (F(b & F a))",
	} {
		f := parsed(t, s)
		a, errno := Of(f)
		if errno != api.OK {
			t.Fatalf("%s: %d", s, errno)
		}
		sameWords(t, f, a, words)
	}
}

func TestOfAny(t *testing.T) { // D3
	r := rand.New(rand.NewSource(5))
	six := 0
	for range 6000 {
		letters := 1 + r.Intn(8)
		f := anyForm(r, r.Intn(6), letters)
		parts := len(ltl.Parts(f))
		a, errno := Of(f)
		if parts > 6 {
			if errno != api.ErrMany || !reflect.DeepEqual(a, api.Auto{}) {
				t.Fatalf("%s with %d Parts: %v, %d", ltl.Print(f), parts, a, errno)
			}
			continue
		}
		if errno != api.OK {
			t.Fatalf("%s with %d Parts: %d", ltl.Print(f), parts, errno)
		}
		if parts == 6 {
			six++
		}
		var words []api.Word
		for range 20 {
			words = append(words, anyWord(r, 1<<letters))
		}
		sameWords(t, f, a, words)
	}
	if six < 100 {
		t.Errorf("only %d with 6 Parts", six)
	}
}

// TestOfAgainstEmpty: an automaton of a formula and of its opposite.
func TestOfAgainstEmpty(t *testing.T) { // D2, D3
	for s, never := range map[string]bool{
		"false": true, "a & !a": true, "X false": true, "F false": true, "G false": true, "a U false": true,
		"F G a & G F !a": true, "(a U b) & G !b": true, "G(a -> X b) & a & X !b": true, "X a & X !a": true,
		"F a & G(a -> X a) & G F !a": true, "!(F F a -> F a)": true, "!(G F a | F G !a)": true,
		"true": false, "a": false, "G F a & G F !a": false, "G(a -> X !a) & G F a": false, "a U b & !b": false,
	} {
		a, errno := Of(parsed(t, s))
		if errno != api.OK || Empty(a) != never {
			t.Errorf("%s: %d, empty is %v", s, errno, Empty(a))
		}
	}
}

// wrongForms are no formulas of letters, for one reason each.
func wrongForms() map[string]api.Form {
	a := leaf(api.Prop, 0)
	round := form(api.Not, a)
	round.Kids[0] = round
	return map[string]api.Form{
		"an Op below":         leaf(-1, 0),
		"an Op above":         leaf(12, 0),
		"a letter below":      leaf(api.Prop, -1),
		"a letter above":      leaf(api.Prop, 8),
		"an N beside True":    leaf(api.True, 1),
		"an N beside Not":     {Op: api.Not, N: 1, Kids: []api.Form{a}},
		"Kids of a letter":    form(api.Prop, a),
		"no Kid":              form(api.Next),
		"two Kids of one":     form(api.Finally, a, a),
		"one Kid of two":      form(api.Until, a),
		"three Kids of two":   form(api.And, a, a, a),
		"within another one":  form(api.Or, a, form(api.Globally, leaf(api.Prop, 9))),
		"where it is nothing": form(api.And, leaf(api.False, 0), leaf(99, 0)),
		"within itself":       round,
	}
}

func TestOfErrors(t *testing.T) { // D3
	many := leaf(api.Prop, 0)
	for n := range 7 {
		if a, errno := Of(many); errno != api.OK || len(a.States) == 0 {
			t.Errorf("%d Parts: %d", n, errno)
		}
		many = form(api.Next, many)
	}
	if a, errno := Of(many); errno != api.ErrMany || !reflect.DeepEqual(a, api.Auto{}) {
		t.Errorf("7 Parts: %v, %d", a, errno)
	}
	for name, f := range wrongForms() {
		for _, f := range []api.Form{f, form(api.And, many, f), form(api.And, f, many)} {
			if a, errno := Of(f); errno != api.ErrForm || !reflect.DeepEqual(a, api.Auto{}) {
				t.Errorf("%s: %v, %d", name, a, errno)
			}
		}
	}
}

// TestPartsCountOnce: six Parts are not too many, however often they stand there.
func TestPartsCountOnce(t *testing.T) { // D3
	six := parsed(t, "(G F a) & (G F b) & (G F c)")
	twice := form(api.Or, form(api.And, six, six), form(api.Not, form(api.Not, six)))
	a, errno := Of(twice)
	if errno != api.OK {
		t.Fatalf("%d", errno)
	}
	r := rand.New(rand.NewSource(6))
	var words []api.Word
	for range 200 {
		words = append(words, anyWord(r, 8))
	}
	sameWords(t, twice, a, words)
	// A formula and its opposite have 6 Parts each.
	if _, errno := Of(form(api.Or, six, form(api.Not, six))); errno != api.ErrMany {
		t.Errorf("12 Parts: %d", errno)
	}
}

// TestOfIsSmall: find takes automata of at most 200 States and 6 Goals (H1).
func TestOfIsSmall(t *testing.T) {
	for s, most := range map[string]int{
		"false": 0, "true": 1, "a": 2, "a U b": 3, "G F a": 2, "F G a": 2, "G(a -> X b)": 4, "G(a -> F b)": 3,
		"(G F a) & (G F b) & (G F c)": 8, "((G F a) & (G F b)) -> G F c": 6, "X X X X X X a": 8,
		"F(a & F(b & F(c & F(d & F(e & F f)))))": 28, "((a U b) U c) U d": 21, "(F a) & (F b) & (F c) & (F d)": 81,
	} {
		a, errno := Of(parsed(t, s))
		if errno != api.OK || len(a.States) > most || len(a.Goals) > 6 {
			t.Errorf("%s: %d, %d States, %d Goals", s, errno, len(a.States), len(a.Goals))
		}
	}
}

// TestHardLetters: letters that no few labels tell apart.
func TestHardLetters(t *testing.T) { // D3
	odd := leaf(api.False, 0)
	for n := range 8 {
		p := leaf(api.Prop, n)
		odd = form(api.Or, form(api.And, odd, form(api.Not, p)), form(api.And, form(api.Not, odd), p))
	}
	f := form(api.Globally, form(api.Implies, odd, form(api.Next, form(api.Until, odd, form(api.Not, odd)))))
	f = form(api.And, f, form(api.Globally, form(api.Finally, odd)))
	a, errno := Of(f)
	if errno != api.OK {
		t.Fatalf("%d", errno)
	}
	words := []api.Word{{Loop: []int{1, 3}}, {Loop: []int{255, 254}}, {Loop: []int{127}}, {Loop: []int{0}}, {Head: []int{1, 1}, Loop: []int{7, 15}}}
	r := rand.New(rand.NewSource(7))
	for range 200 {
		words = append(words, anyWord(r, 256))
	}
	sameWords(t, f, a, words)
}

func TestLargeForms(t *testing.T) { // D3, G1
	defer debug.SetMaxStack(debug.SetMaxStack(1 << 18))
	deep, shared, nots := leaf(api.Prop, 0), form(api.Finally, leaf(api.Prop, 1)), leaf(api.Prop, 2)
	for range 200000 {
		deep = form(api.Next, deep)
		nots = form(api.Not, nots)
	}
	if _, errno := Of(deep); errno != api.ErrMany {
		t.Errorf("a deep one: %d", errno)
	}
	w := api.Word{Head: []int{4}, Loop: []int{2}}
	if a, errno := Of(nots); errno != api.OK || !Accepts(a, w) || Accepts(a, api.Word{Loop: []int{2}}) {
		t.Errorf("many Nots: %d", errno)
	}
	for range 25 {
		shared = form(api.And, shared, shared)
	}
	if a, errno := Of(shared); errno != api.OK || !Accepts(a, w) || Accepts(a, api.Word{Loop: []int{4}}) {
		t.Errorf("a shared one: %d", errno)
	}
}

// lists are all lists of an automaton.
func lists(a api.Auto) [][]int {
	all := [][]int{a.First}
	for _, s := range a.States {
		all = append(all, s.To)
	}
	return append(all, a.Goals...)
}

func TestOfIsNewMemory(t *testing.T) { // G4
	f := parsed(t, "(G F a) & (b U X c)")
	before := ltl.Print(f)
	a, _ := Of(f)
	b, _ := Of(f)
	if !reflect.DeepEqual(a, b) {
		t.Fatalf("%v, and then %v", a, b)
	}
	for i, l := range lists(a) {
		l = l[:cap(l)]
		for k := range l {
			l[k] = 1000 + i
		}
	}
	for i, l := range lists(a) {
		if slices.ContainsFunc(l, func(x int) bool { return x != 1000+i }) {
			t.Errorf("list %d shares its memory", i)
		}
	}
	if c, _ := Of(f); !reflect.DeepEqual(b, c) || ltl.Print(f) != before {
		t.Error("two answers share memory, or what was handed in is changed")
	}
}
