package proof

import (
	"math"
	"math/rand"
	"reflect"
	"runtime/debug"
	"slices"
	"testing"

	"vigil/api"
	"vigil/check"
	"vigil/ltl"
	"vigil/model"
)

func parsed(t *testing.T, s string) api.Form {
	t.Helper()
	f, errno, at := ltl.Parse(s)
	if errno != api.OK {
		t.Fatalf("%q: %d, %d", s, errno, at)
	}
	return f
}

func load(t *testing.T, s string) api.Model {
	t.Helper()
	m, errno, line := model.Parse(s)
	if errno != api.OK {
		t.Fatalf("%q: %d, %d", s, errno, line)
	}
	return m
}

// rows are Entries: State, Set, Rank and Which of each.
type rows [][4]int

func (r rows) entries() []api.Entry {
	var l []api.Entry
	for _, x := range r {
		l = append(l, api.Entry{State: x[0], Set: x[1], Rank: x[2], Which: x[3]})
	}
	return l
}

func valid(t *testing.T, m, f string, r rows, want bool) {
	t.Helper()
	l := r.entries()
	if got := Valid(load(t, m), parsed(t, f), l); got != want {
		t.Errorf("%s in %q: %v is a proof: %v, want %v", f, m, l, got, want)
	}
	if got := judgeOf(load(t, m), parsed(t, f)).valid(l); got != want {
		t.Errorf("%s in %q: %v is a proof by the words: %v, want %v", f, m, l, got, want)
	}
}

// TestWaiting: !(G a) is true U !a, part 0, which is waited for in a system that is
// always a.
func TestWaiting(t *testing.T) { // K1, K2
	for _, c := range []struct {
		l    rows
		want bool
	}{
		{nil, false},
		{rows{{0, 1, 0, 0}}, true},
		{rows{{0, 1, 7, 0}}, true},
		{rows{{0, 1, math.MaxInt, 0}}, true},
		{rows{{0, 1, -1, 0}}, false},
		{rows{{0, 1, math.MinInt, 0}}, false},
		{rows{{0, 1, 0, 1}}, false},
		{rows{{0, 1, 0, -1}}, false},
		{rows{{0, 1, 0, 64}}, false},
		{rows{{0, 1, 0, math.MaxInt}}, false},
		{rows{{0, 1, 0, math.MinInt}}, false},
		{rows{{0, 0, 0, 0}}, false},
		{rows{{1, 1, 0, 0}}, false},
		{rows{{-1, 1, 0, 0}}, false},
		{rows{{0, 2, 0, 0}}, false},
		{rows{{0, -1, 0, 0}}, false},
		{rows{{0, 1, 0, 0}, {0, 1, 0, 0}}, false},
		{rows{{0, 1, 0, 0}, {0, 1, 1, 0}}, false},
		{rows{{0, 1, 0, 0}, {0, 2, 0, 0}}, false},
		{rows{{0, 1, 0, 0}, {1, 0, 0, 0}}, false},
		{rows{{0, 1, 0, 0}, {math.MaxInt, math.MaxInt, 0, 0}}, false},
		{rows{{math.MinInt, math.MinInt, 0, 0}, {0, 1, 0, 0}}, false},
		// Choice 0 leads to itself, and nothing is waited for there.
		{rows{{0, 1, 0, 0}, {0, 0, 0, 0}}, false},
		{rows{{0, 0, 3, 0}, {0, 1, 0, 0}}, false},
	} {
		valid(t, "s a > s", "G a", c.l, c.want)
	}
}

// TestFalling: !(X a) is X !a, part 0: from choice 1 there is no step where it is
// always a.
func TestFalling(t *testing.T) { // K1, K2
	valid(t, "s a > s", "X a", nil, false)
	valid(t, "s a > s", "X a", rows{{0, 1, 5, 9}}, true)
	valid(t, "s a > s", "X a", rows{{0, 1, 0, -9}}, true)
	valid(t, "s a > s", "X a", rows{{0, 1, -1, 0}}, false)
	// !(X X a) is X X !a: X !a is part 0, and the whole part 1. From {1} one goes to
	// {0} and {0, 1}; from {0} nowhere.
	for _, c := range []struct {
		l    rows
		want bool
	}{
		{rows{{0, 2, 1, 0}, {0, 3, 0, 0}, {0, 1, 0, 0}}, true},
		{rows{{0, 2, 9, 5}, {0, 3, 8, 6}, {0, 1, 3, 7}}, true},
		{rows{{0, 1, 0, 0}, {0, 2, 1, 0}, {0, 3, 0, 0}}, true},
		{rows{{0, 2, 0, 0}, {0, 3, 0, 0}, {0, 1, 0, 0}}, false},
		{rows{{0, 2, 0, 0}, {0, 3, 1, 0}, {0, 1, 1, 0}}, false},
		{rows{{0, 2, 1, 0}, {0, 1, 0, 0}}, false},
		{rows{{0, 2, 1, 0}, {0, 3, 0, 0}}, false},
		{rows{{0, 3, 0, 0}, {0, 1, 0, 0}}, false},
	} {
		valid(t, "s a > s", "X X a", c.l, c.want)
	}
}

// TestWhoWaits: where the Rank stays, it is the Entry that a step leads to of which
// something is asked.
func TestWhoWaits(t *testing.T) { // K2
	// true U !a is part 0, X of it part 1. At s0 it comes, at s1 it is waited for.
	for _, c := range []struct {
		l    rows
		want bool
	}{
		{rows{{0, 2, 0, 0}, {0, 3, 0, 0}, {1, 1, 0, 0}, {1, 3, 0, 0}}, true},
		{rows{{0, 2, 0, 0}, {0, 3, 1, 0}, {1, 1, 0, 0}, {1, 3, 0, 0}}, true},
		{rows{{0, 2, 0, 0}, {0, 3, 0, 1}, {1, 1, 0, 0}, {1, 3, 0, 0}}, false},
		{rows{{0, 2, 0, 0}, {0, 3, 1, 1}, {1, 1, 0, 0}, {1, 3, 0, 0}}, true},
		{rows{{0, 2, 0, 0}, {0, 3, 1, 0}, {1, 1, 0, 1}, {1, 3, 0, 0}}, false},
		{rows{{0, 2, 0, 0}, {0, 3, 2, 0}, {1, 1, 0, 1}, {1, 3, 1, 0}}, true},
		{rows{{0, 2, 0, 1}, {0, 3, 0, 1}, {1, 1, 0, 1}, {1, 3, 0, 1}}, false}, // that is no Until
		{rows{{0, 3, 0, 0}, {1, 1, 0, 0}, {1, 3, 0, 0}}, false},
		{rows{{0, 2, 0, 0}, {0, 3, 0, 0}, {1, 3, 0, 0}}, false},
	} {
		valid(t, "s0 - > s1\ns1 a > s1", "X G a", c.l, c.want)
	}
	// true U !a is part 0, X false part 1, X of it part 2: what is waited for at s0
	// comes at s1, from where there is no step.
	wants := func(rank, which int, want bool) {
		t.Helper()
		l := rows{{0, 5, 1, 0}, {0, 7, 1, 0}, {1, 3, rank, which}, {1, 7, 0, 0}}
		valid(t, "s0 a > s1\ns1 - > s1", "G a | X X true", l, want)
	}
	wants(0, 0, true)
	wants(1, 0, false)
	wants(0, 1, true)
	wants(2, 0, false)
}

// proves fails where Prove does not answer as it should; it answers the proof.
func proves(t *testing.T, m api.Model, f api.Form, want bool) []api.Entry {
	t.Helper()
	l, ok, errno := Prove(m, f)
	switch {
	case errno != api.OK || ok != want:
		t.Fatalf("%s in %q: %v, %d, want %v", ltl.Print(f), model.Print(m), ok, errno, want)
	case !ok && l != nil:
		t.Fatalf("%s in %q: there is none, and %v", ltl.Print(f), model.Print(m), l)
	case ok && !Valid(m, f, l):
		t.Fatalf("%s in %q: %v is none", ltl.Print(f), model.Print(m), l)
	}
	return l
}

func TestProve(t *testing.T) { // K3
	for text, formulas := range map[string]map[string]bool{
		"red a > red green\ngreen b > amber\namber - > red": {
			"G F a": true, "G F b": false, "G(b -> X X a)": true, "G(a -> F b)": false, "!b U a": true, "G !(a & b)": true,
			"X b": false, "X(a | b)": true, "(G F b) -> G F !(a | b)": true, "a": true, "b": false, "F b | G a": true, "F G a": false,
			"true": true, "false": false, "X true": true, "X false": false, "c": false, "G !c": true, "c R a": false, "F c": false,
			"a R (a | b)": true, "G(a -> X(a | b))": true, "G(a | b | X a)": true, "true U a": true, "X X X !b": false,
		},
		"s a > s":                     {"G a": true, "F !a": false, "G F a & X X a": true, "b R a": true, "a U b": false},
		"s abcdefgh > t\nt - > t":     {"a & b & c & d & e & f & g & h": true, "X G !(a | b | c | d | e | f | g | h)": true, "F G !h": true},
		"a a > a b\nb b > b":          {"F b": false, "F G b | G a": true, "G(b -> G b)": true, "!(a U b) -> G a": true, "F G b": false},
		"a a > b\nb b > a\nx c > x a": {"G !c": true, "G(a -> X b) & G(b -> X a)": true, "F c": false},
	} {
		m := load(t, text)
		for s, want := range formulas {
			l := proves(t, m, parsed(t, s), want)
			if (s == "true" || s == "a" && text[0] == 'r') && len(l) > 0 {
				t.Errorf("%s: %v, where nothing is to be said", s, l)
			}
			if want && !judgeOf(m, parsed(t, s)).valid(l) {
				t.Errorf("%s: %v is none by the words", s, l)
			}
		}
	}
}

func TestProveOfAny(t *testing.T) { // K3, K4
	r := rand.New(rand.NewSource(1))
	proved, long := 0, 0
	for range 4000 {
		m, f := anyModel(r, 2, 5), someParts(r, 2, r.Intn(7), 6)
		_, want, _ := check.Check(m, f)
		l := proves(t, m, f, want)
		if want {
			proved++
		}
		if len(l) > 20 {
			long++
		}
	}
	if proved < 1000 || proved > 3000 || long < 100 {
		t.Errorf("%d of 4000 are proved, %d with more than 20 Entries", proved, long)
	}
}

// changed is a list that was a proof, and most times is none any more.
func changed(r *rand.Rand, l []api.Entry) []api.Entry {
	l = slices.Clone(l)
	for range 1 + r.Intn(2) {
		if len(l) == 0 {
			return rows{{r.Intn(3) - 1, r.Intn(4) - 1, r.Intn(3) - 1, r.Intn(3) - 1}}.entries()
		}
		i, by := r.Intn(len(l)), r.Intn(3)-1
		switch r.Intn(9) {
		case 0:
			l[i].State += by
		case 1:
			l[i].Set ^= 1 << r.Intn(3)
		case 2, 3:
			l[i].Rank += by
		case 4:
			l[i].Which += by
		case 5:
			l = slices.Delete(l, i, i+1)
		case 6:
			l = append(l, l[i])
		case 7:
			l = append(l, api.Entry{State: r.Intn(3), Set: r.Intn(4), Rank: r.Intn(3), Which: r.Intn(2)})
		case 8:
			k := r.Intn(len(l))
			l[i].Rank, l[i].Which = l[k].Rank, l[k].Which
		}
	}
	return l
}

func TestValidByItsWords(t *testing.T) { // K1, K2, K4
	r := rand.New(rand.NewSource(2))
	good, bad := 0, 0
	for range 5000 {
		m, f := anyModel(r, 2, 3), someParts(r, 2, r.Intn(3), 3)
		l, holds, _ := Prove(m, f)
		j := judgeOf(m, f)
		if holds && !j.valid(l) {
			t.Fatalf("%s in %q: %v is none by the words", ltl.Print(f), model.Print(m), l)
		}
		for range 8 {
			list := changed(r, l)
			want := j.valid(list)
			if got := Valid(m, f, list); got != want {
				t.Fatalf("%s in %q: %v is a proof: %v, want %v", ltl.Print(f), model.Print(m), list, got, want)
			}
			if want && !holds {
				t.Fatalf("%s in %q: a proof of what does not hold: %v", ltl.Print(f), model.Print(m), list)
			}
			if want {
				good++
			} else {
				bad++
			}
		}
	}
	if good < 2000 || bad < 2000 {
		t.Errorf("only %d proofs, and %d that are none", good, bad)
	}
}

// eachList goes through all lists with at most one Entry of each spot, with these
// Ranks and Which.
func eachList(spots []api.Entry, ranks, which int, look func(l []api.Entry)) {
	options := 1 + ranks*which
	count := 1
	for range spots {
		count *= options
	}
	for number := range count {
		var l []api.Entry
		for _, e := range spots {
			if o := number % options; o > 0 {
				e.Rank, e.Which = (o-1)/which, (o-1)%which
				l = append(l, e)
			}
			number /= options
		}
		look(l)
	}
}

// TestAllLists: of small models and formulas with at most one Part just those that
// hold have a proof.
func TestAllLists(t *testing.T) { // K2, K4
	spots := []api.Entry{{State: 0, Set: 0}, {State: 0, Set: 1}, {State: 1, Set: 0}, {State: 1, Set: 1}}
	for _, text := range []string{"s a > t\nt b > t", "s a > s t\nt b > t", "s - > t\nt a > s", "s a > s\nt b > t", "s ab > s t\nt - > s t"} {
		m := load(t, text)
		for _, s := range []string{
			"a", "!a", "X a", "X b", "!X a", "F a", "F b", "G a", "G !b", "G(a | b)", "a U b", "b U a", "a R b", "!(a U b)", "a & F b", "a | G b", "(a | b) U b", "X(a | b)",
		} {
			f := parsed(t, s)
			j := judgeOf(m, f)
			_, holds, _ := check.Check(m, f)
			some := false
			eachList(spots, 3, 1, func(l []api.Entry) {
				got := Valid(m, f, l)
				some = some || got
				if got != j.valid(l) {
					t.Fatalf("%s in %q: %v is a proof: %v", s, text, l, got)
				}
			})
			if some != holds {
				t.Errorf("%s in %q: has a proof: %v, holds: %v", s, text, some, holds)
			}
			eachList(spots, 2, 2, func(l []api.Entry) {
				if got := Valid(m, f, l); got != j.valid(l) {
					t.Fatalf("%s in %q: %v is a proof: %v", s, text, l, got)
				}
			})
		}
	}
}

// wrongForms are no formulas of letters, for one reason each.
func wrongForms() map[string]api.Form {
	a := leaf(api.Prop, 0)
	round := form(api.Not, a)
	round.Kids[0] = round
	return map[string]api.Form{
		"an Op below":         leaf(-1, 0),
		"an Op above":         leaf(12, 0),
		"a letter below":      leaf(api.Prop, -1),
		"a letter above":      leaf(api.Prop, 8),
		"an N beside True":    leaf(api.True, 1),
		"Kids of a letter":    form(api.Prop, a),
		"no Kid":              form(api.Next),
		"three Kids of two":   form(api.And, a, a, a),
		"within another one":  form(api.Or, leaf(api.True, 0), form(api.Globally, leaf(api.Prop, 9))),
		"where it is nothing": form(api.Or, leaf(api.True, 0), leaf(99, 0)),
		"within itself":       round,
	}
}

func wrongModels() map[string]api.Model {
	return map[string]api.Model{
		"nothing":                     {},
		"a state behind that is none": {Names: []string{"s"}, Letters: []int{0}, To: [][]int{{1}}},
		"a state below":               {Names: []string{"s"}, Letters: []int{0}, To: [][]int{{-1}}},
		"no state behind":             {Names: []string{"s"}, Letters: []int{0}, To: [][]int{nil}},
		"a name that is none":         {Names: []string{"S"}, Letters: []int{0}, To: [][]int{{0}}},
		"letters that are none":       {Names: []string{"s"}, Letters: []int{256}, To: [][]int{{0}}},
		"no letters":                  {Names: []string{"s"}, To: [][]int{{0}}},
		"lists that do not fit":       {Names: []string{"s"}, Letters: []int{0, 0}, To: [][]int{{0}}},
	}
}

// nexts is a formula behind so many X.
func nexts(n int, f api.Form) api.Form {
	for range n {
		f = form(api.Next, f)
	}
	return f
}

func TestWrongInputs(t *testing.T) { // K2, K3, G2
	refused := func(name string, m api.Model, f api.Form, want api.Errno) {
		t.Helper()
		if l, ok, errno := Prove(m, f); l != nil || ok || errno != want {
			t.Errorf("%s: %v, %v, %d, want %d", name, l, ok, errno, want)
		}
		for _, l := range [][]api.Entry{nil, {{}}, {{Set: 1}}} {
			if Valid(m, f, l) {
				t.Errorf("%s: %v is a proof", name, l)
			}
		}
	}
	m, always := load(t, "s a > s"), leaf(api.True, 0)
	many := form(api.Or, always, nexts(7, always))
	for name, f := range wrongForms() {
		refused(name, m, f, api.ErrForm)
		refused(name, m, form(api.Or, many, f), api.ErrForm)
		refused(name, api.Model{}, f, api.ErrRange)
	}
	for name, m := range wrongModels() {
		refused(name, m, always, api.ErrRange)
		refused(name, m, many, api.ErrRange)
	}
	refused("7 Parts", m, many, api.ErrMany)
	refused("7 Parts, and an opposite", m, not(not(many)), api.ErrMany)
	proves(t, m, form(api.Or, always, nexts(6, always)), true)
	proves(t, m, nexts(6, leaf(api.Prop, 0)), true)
	proves(t, m, nexts(6, leaf(api.Prop, 1)), false)
	if !Valid(m, always, nil) || !Valid(m, always, []api.Entry{}) || Valid(m, always, make([]api.Entry, 1)) {
		t.Error("true needs no Entry; and one that leads to itself is no proof")
	}
}

// TestAllChoices: with 6 Parts and 12 states.
func TestAllChoices(t *testing.T) { // K1, K2, K3
	var m api.Model
	for s := range 12 {
		m.Names = append(m.Names, string(rune('a'+s)))
		m.Letters = append(m.Letters, 1|s<<1&7)
		m.To = append(m.To, nil)
		for to := range 12 {
			m.To[s] = append(m.To[s], to)
		}
	}
	// Each of the six is waited for, or not, as it will; but that a fails never comes.
	f := leaf(api.False, 0)
	for n := range 5 {
		f = form(api.Or, f, form(api.Globally, form(api.Or, leaf(api.Prop, 0), leaf(api.Prop, n+3))))
	}
	f = form(api.Or, f, form(api.Until, leaf(api.Prop, 1), leaf(api.Prop, 0)))
	l := proves(t, m, f, true)
	if len(ltl.Parts(f)) != 6 || len(l) == 0 {
		t.Fatalf("%d Parts, %d Entries", len(ltl.Parts(f)), len(l))
	}
	g := form(api.Or, form(api.Globally, leaf(api.Prop, 0)), not(nexts(5, leaf(api.Prop, 1))))
	l = proves(t, m, g, true)
	if len(l) < 12*32 || !judgeOf(m, g).valid(l) {
		t.Errorf("%d Entries, or by the words no proof", len(l))
	}
	for i := range l {
		if without := slices.Delete(slices.Clone(l), i, i+1); Valid(m, g, without) {
			t.Errorf("%v is not missed", l[i])
		}
	}
	proves(t, m, form(api.And, g, leaf(api.Prop, 1)), false)
}

func TestLargeInputs(t *testing.T) { // G1
	defer debug.SetMaxStack(debug.SetMaxStack(1 << 18))
	m := load(t, "s a > s")
	nots, shared, wide := leaf(api.Prop, 0), form(api.Finally, leaf(api.Prop, 0)), form(api.Globally, leaf(api.Prop, 0))
	for range 200000 {
		nots = not(nots)
		wide = form(api.And, wide, leaf(api.Prop, 0))
	}
	for range 40 {
		shared = form(api.And, shared, shared)
	}
	for name, f := range map[string]api.Form{"Nots": nots, "shared": shared, "wide": wide} {
		l, ok, errno := Prove(m, f)
		if !ok || errno != api.OK || !Valid(m, f, l) {
			t.Errorf("%s: %v, %d", name, ok, errno)
		}
	}
	if _, _, errno := Prove(m, nexts(200000, leaf(api.Prop, 0))); errno != api.ErrMany {
		t.Errorf("a deep one: %d", errno)
	}
	if Valid(m, nexts(200000, leaf(api.True, 0)), nil) {
		t.Error("a deep one has a proof")
	}
	long := make([]api.Entry, 1<<22)
	if Valid(m, leaf(api.True, 0), long) {
		t.Error("many Entries of one spot")
	}
	for i := range long {
		long[i].State = i
	}
	if Valid(m, leaf(api.True, 0), long) {
		t.Error("many Entries of states that are none")
	}
}

func TestNewMemory(t *testing.T) { // G3, G4
	m, f := load(t, "red a > red green\ngreen b > amber\namber - > red"), parsed(t, "(G F b) -> G F !(a | b)")
	text, formula := model.Print(m), ltl.Print(f)
	first, _, _ := Prove(m, f)
	second, _, _ := Prove(m, f)
	kept := slices.Clone(first)
	if len(first) == 0 || !reflect.DeepEqual(first, second) {
		t.Fatalf("%v, and then %v", first, second)
	}
	if !Valid(m, f, first) || !slices.Equal(first, kept) {
		t.Error("Valid changes what it is handed")
	}
	for i := range first {
		first[i] = api.Entry{State: -1}
	}
	if !slices.Equal(second, kept) {
		t.Error("two proofs share memory")
	}
	if model.Print(m) != text || ltl.Print(f) != formula {
		t.Error("what was handed in is changed")
	}
}

// TestAnyNumbers: Entries of any parts.
func TestAnyNumbers(t *testing.T) { // G1, K2
	r := rand.New(rand.NewSource(3))
	edges := []int{math.MinInt, -1, 0, 1, 2, 3, 11, 12, 63, 64, 65, 1 << 32, math.MaxInt}
	number := func() int { return edges[r.Intn(len(edges))] }
	for range 20000 {
		m, f := anyModel(r, 2, 2), someParts(r, 2, 0, 2)
		var l []api.Entry
		for range r.Intn(4) {
			l = append(l, api.Entry{State: number(), Set: number(), Rank: number(), Which: number()})
		}
		if got := Valid(m, f, l); got != judgeOf(m, f).valid(l) {
			t.Fatalf("%s in %q: %v is a proof: %v", ltl.Print(f), model.Print(m), l, got)
		}
	}
}
