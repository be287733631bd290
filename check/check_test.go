package check

import (
	"math/rand"
	"reflect"
	"runtime/debug"
	"slices"
	"strconv"
	"testing"

	"vigil/api"
	"vigil/auto"
	"vigil/find"
	"vigil/ltl"
	"vigil/model"
	"vigil/word"
)

func parsed(t *testing.T, s string) api.Form {
	t.Helper()
	f, errno, at := ltl.Parse(s)
	if errno != api.OK {
		t.Fatalf("%q: %d, %d", s, errno, at)
	}
	return f
}

func load(t *testing.T, s string) api.Model {
	t.Helper()
	m, errno, line := model.Parse(s)
	if errno != api.OK {
		t.Fatalf("%q: %d, %d", s, errno, line)
	}
	return m
}

// checks fails where Check does not answer as it should.
func checks(t *testing.T, m api.Model, f api.Form, want bool) {
	t.Helper()
	w, ok, errno := Check(m, f)
	switch {
	case errno != api.OK || ok != want:
		t.Fatalf("%s in %q: %v, %d, want %v", ltl.Print(f), model.Print(m), ok, errno, want)
	case ok && !reflect.DeepEqual(w, api.Word{}):
		t.Fatalf("%s in %q: holds, and %v", ltl.Print(f), model.Print(m), w)
	case !ok && !model.Path(m, w):
		t.Fatalf("%s in %q: %v is no path", ltl.Print(f), model.Print(m), w)
	case !ok && word.Holds(f, model.Trace(m, w)):
		t.Fatalf("%s in %q: holds in %v", ltl.Print(f), model.Print(m), w)
	}
}

// sats fails where Sat does not answer as it should.
func sats(t *testing.T, f api.Form, want bool) {
	t.Helper()
	w, ok, errno := Sat(f)
	switch {
	case errno != api.OK || ok != want:
		t.Fatalf("%s: %v, %d, want %v", ltl.Print(f), ok, errno, want)
	case !ok && !reflect.DeepEqual(w, api.Word{}):
		t.Fatalf("%s: never, but %v", ltl.Print(f), w)
	case ok && !(word.Good(w) && word.Holds(f, w)):
		t.Fatalf("%s: not in %v", ltl.Print(f), w)
	}
}

// parts fails where Apart does not answer as it should.
func parts(t *testing.T, f, g api.Form, want bool) {
	t.Helper()
	w, ok, errno := Apart(f, g)
	switch {
	case errno != api.OK || ok != want:
		t.Fatalf("%s and %s: %v, %d, want %v", ltl.Print(f), ltl.Print(g), ok, errno, want)
	case !ok && !reflect.DeepEqual(w, api.Word{}):
		t.Fatalf("%s and %s: the same, but %v", ltl.Print(f), ltl.Print(g), w)
	case ok && !(word.Good(w) && word.Holds(f, w) != word.Holds(g, w)):
		t.Fatalf("%s and %s: not parted by %v", ltl.Print(f), ltl.Print(g), w)
	}
}

func TestCheck(t *testing.T) { // J1
	for text, formulas := range map[string]map[string]bool{
		"red a > red green\ngreen b > amber\namber - > red": {
			"G F a": true, "G F b": false, "G(b -> X X a)": true, "G(a -> F b)": false, "!b U a": true, "G !(a & b)": true,
			"X b": false, "X(a | b)": true, "(G F b) -> G F !(a | b)": true, "a": true, "b": false, "F b | G a": true, "F G a": false,
			"true": true, "false": false, "X true": true, "X false": false, "c": false, "G !c": true, "c R a": false, "F c": false,
			"X X a": false, "a R (a | b)": true, "G(a -> X(a | b))": true, "G(a | b | X a)": true, "true U a": true, "X X X !b": false,
		},
		"red a > red green\ngreen b > red": {"G F a": true, "G F b": false, "G(b -> X a)": true, "G(a | b)": true},
		"s a > s":                          {"G a": true, "F !a": false, "G F a & X X a": true, "a & !a": false, "b R a": true, "a U b": false},
		"s abcdefgh > t\nt - > t":          {"a & b & c & d & e & f & g & h": true, "X G !(a | b | c | d | e | f | g | h)": true, "X h": false, "G h": false, "F G !h": true},
		"a a > a b\nb b > b":               {"F b": false, "F G b | G a": true, "a U b": false, "G(b -> G b)": true, "!(a U b) -> G a": true, "F G b": false},
		"a a > b\nb b > a\nx c > x a":      {"G !c": true, "G(a -> X b) & G(b -> X a)": true, "F c": false},
	} {
		m := load(t, text)
		for s, want := range formulas {
			checks(t, m, parsed(t, s), want)
		}
	}
}

func TestSat(t *testing.T) { // J2
	for s, want := range map[string]bool{
		"true": true, "false": false, "a": true, "!a": true, "a & !a": false, "a | !a": true, "h & !g": true,
		"a & X !a": true, "X true": true, "X false": false, "F false": false, "G true": true, "a U false": false, "true R false": false,
		"G a & F !a": false, "(a U b) & G !b": false, "G F a & G F !a": true, "F G a & G F !a": false, "X X X c & !c": true,
		"(a R b) & !b": false, "(a R b) & X !b": true, "G(a -> X !a) & G F a": true, "F a & G(a -> X a) & G F !a": false,
		"G(a -> X b) & G(b -> X a) & !a & F a": true, "X a & X !a": false, "a & b & c & d & e & f & g & h": true,
		"(F a) & (F b) & (F c) & (F d) & (F e) & (F f)": true, "G(a & X !a)": false,
		"(F a) & (F b) & (F c) & G !(a & b) & G !(b & c)": true, "X X X X X X a": true, "!(F F a -> F a)": false,
	} {
		sats(t, parsed(t, s), want)
	}
}

func TestApart(t *testing.T) { // J3
	for s, want := range map[[2]string]bool{
		{"F F a", "F a"}: false, {"F a", "G a"}: true, {"a U b", "b | a & X(a U b)"}: false, {"!(a U b)", "!a R !b"}: false,
		{"a", "b"}: true, {"a", "a"}: false, {"true", "false"}: true, {"a | !a", "true"}: false, {"G(a & b)", "G a & G b"}: false,
		{"G(a | b)", "G a | G b"}: true, {"F(a | b)", "F a | F b"}: false, {"F(a & b)", "F a & F b"}: true,
		{"X(a U b)", "(X a) U (X b)"}: true, {"a", "X a"}: true, {"a R b", "b & (a | X(a R b))"}: false,
		{"a -> b", "!a | b"}: false, {"G a", "!F !a"}: false, {"F G a", "G F a"}: true, {"X !a", "!X a"}: false,
		{"a U b", "a U (a U b)"}: false, {"X true", "true"}: false, {"G false", "false"}: false, {"F a", "a | X F a"}: false,
	} {
		f, g := parsed(t, s[0]), parsed(t, s[1])
		if len(ltl.Parts(apart(f, g))) > 6 {
			if w, ok, errno := Apart(f, g); errno != api.ErrMany || ok || !reflect.DeepEqual(w, api.Word{}) {
				t.Errorf("%v: %v, %v, %d", s, w, ok, errno)
			}
			continue
		}
		parts(t, f, g, want)
		parts(t, g, f, want)
	}
}

// fewParts is a formula with at most so many Parts.
func fewParts(r *rand.Rand, letters, most int) api.Form {
	for {
		if f := anyForm(r, r.Intn(5), letters); len(ltl.Parts(f)) <= most {
			return f
		}
	}
}

func TestCheckOfAny(t *testing.T) { // J1
	r := rand.New(rand.NewSource(1))
	holds := 0
	for range 1500 {
		m, f := anyModel(r, 2), fewParts(r, 2, 6)
		want := !some(systemOf(m), not(f))
		checks(t, m, f, want)
		if want {
			holds++
		}
	}
	if holds < 300 || holds > 1200 {
		t.Errorf("%d of 1500 hold", holds)
	}
}

func TestSatOfAny(t *testing.T) { // J2
	r := rand.New(rand.NewSource(2))
	never := 0
	for range 1500 {
		f := fewParts(r, 2, 6)
		want := some(anything(2), f)
		sats(t, f, want)
		if !want {
			never++
		}
	}
	if never < 100 {
		t.Errorf("%d of 1500 hold in no word", never)
	}
}

func TestApartOfAny(t *testing.T) { // J3
	r := rand.New(rand.NewSource(3))
	same, many := 0, 0
	for range 2000 {
		f, g := fewParts(r, 2, 4), fewParts(r, 2, 2)
		if r.Intn(2) == 0 {
			g = changed(r, f)
		}
		whole := apart(f, g)
		if len(ltl.Parts(whole)) > 6 {
			if w, ok, errno := Apart(f, g); errno != api.ErrMany || ok || !reflect.DeepEqual(w, api.Word{}) {
				t.Fatalf("%s and %s: %v, %v, %d", ltl.Print(f), ltl.Print(g), w, ok, errno)
			}
			many++
			continue
		}
		want := some(anything(2), whole)
		parts(t, f, g, want)
		if !want {
			same++
		}
	}
	if same < 200 || many < 100 {
		t.Errorf("%d say the same, %d have too many Parts", same, many)
	}
}

// changed is another formula that most times says the same.
func changed(r *rand.Rand, f api.Form) api.Form {
	switch r.Intn(7) {
	case 0:
		return not(not(f))
	case 1:
		return form(api.And, f, f)
	case 2:
		return form(api.Or, f, fewParts(r, 2, 0))
	case 3:
		return form(api.And, fewParts(r, 2, 0), f)
	case 4:
		return not(form(api.Implies, f, leaf(api.False, 0)))
	case 5:
		return ltl.Plain(f)
	}
	return form(api.Finally, f)
}

func TestTogether(t *testing.T) { // J4
	r := rand.New(rand.NewSource(4))
	for range 1500 {
		m, f, g := anyModel(r, 2), fewParts(r, 2, 3), fewParts(r, 2, 2)
		if r.Intn(2) == 0 {
			g = changed(r, f)
		}
		_, holds, _ := Check(m, f)
		_, opposite, _ := Check(m, not(f))
		if holds && opposite {
			t.Fatalf("%s and its opposite hold in %q", ltl.Print(f), model.Print(m))
		}
		if _, sat, _ := Sat(f); !sat && !opposite {
			t.Fatalf("%s holds in no word, but in a path of %q", ltl.Print(f), model.Print(m))
		}
		if _, differ, errno := Apart(f, g); errno == api.OK && !differ {
			if _, also, _ := Check(m, g); also != holds {
				t.Fatalf("%s and %s are the same, but not in %q", ltl.Print(f), ltl.Print(g), model.Print(m))
			}
		}
	}
}

// wrongForms are no formulas of letters, for one reason each.
func wrongForms() map[string]api.Form {
	a := leaf(api.Prop, 0)
	round := form(api.Not, a)
	round.Kids[0] = round
	return map[string]api.Form{
		"an Op below":         leaf(-1, 0),
		"an Op above":         leaf(12, 0),
		"a letter below":      leaf(api.Prop, -1),
		"a letter above":      leaf(api.Prop, 8),
		"an N beside True":    leaf(api.True, 1),
		"an N beside Not":     {Op: api.Not, N: 1, Kids: []api.Form{a}},
		"Kids of a letter":    form(api.Prop, a),
		"no Kid":              form(api.Next),
		"two Kids of one":     form(api.Finally, a, a),
		"one Kid of two":      form(api.Until, a),
		"three Kids of two":   form(api.And, a, a, a),
		"within another one":  form(api.Or, a, form(api.Globally, leaf(api.Prop, 9))),
		"where it is nothing": form(api.And, leaf(api.False, 0), leaf(99, 0)),
		"within itself":       round,
	}
}

// nexts is a behind so many X.
func nexts(n int) api.Form {
	f := leaf(api.Prop, 0)
	for range n {
		f = form(api.Next, f)
	}
	return f
}

func TestErrors(t *testing.T) { // J1, J2, J3, G2
	refused := func(name string, want api.Errno) func(w api.Word, ok bool, errno api.Errno) {
		return func(w api.Word, ok bool, errno api.Errno) {
			t.Helper()
			if errno != want || ok || !reflect.DeepEqual(w, api.Word{}) {
				t.Errorf("%s: %v, %v, %d", name, w, ok, errno)
			}
		}
	}
	m, a, many := load(t, "s a > s"), leaf(api.Prop, 0), nexts(7)
	for name, f := range wrongForms() {
		for _, f := range []api.Form{f, form(api.And, many, f)} {
			refused(name, api.ErrForm)(Check(m, f))
			refused(name, api.ErrRange)(Check(api.Model{}, f))
			refused(name, api.ErrForm)(Sat(f))
			for _, g := range []api.Form{a, many, f} {
				refused(name, api.ErrForm)(Apart(f, g))
				refused(name, api.ErrForm)(Apart(g, f))
			}
		}
	}
	refused("7 Parts", api.ErrMany)(Check(m, many))
	refused("7 Parts", api.ErrMany)(Sat(many))
	refused("7 Parts, and an opposite", api.ErrMany)(Sat(not(many)))
	refused("7 Parts, and no model", api.ErrRange)(Check(api.Model{}, many))
	refused("7 Parts, and another", api.ErrMany)(Apart(many, a))
	refused("another, and 7 Parts", api.ErrMany)(Apart(a, many))
	refused("8 Parts of both", api.ErrMany)(Apart(nexts(4), a))
	for name, m := range map[string]api.Model{
		"a state behind that is none": {Names: []string{"s"}, Letters: []int{0}, To: [][]int{{1}}},
		"no state behind":             {Names: []string{"s"}, Letters: []int{0}, To: [][]int{nil}},
		"a name that is none":         {Names: []string{"S"}, Letters: []int{0}, To: [][]int{{0}}},
		"letters that are none":       {Names: []string{"s"}, Letters: []int{256}, To: [][]int{{0}}},
		"lists that do not fit":       {Names: []string{"s"}, Letters: []int{0, 0}, To: [][]int{{0}}},
	} {
		refused(name, api.ErrRange)(Check(m, a))
	}
}

// TestParts: at the bound, and counted as A4 does.
func TestParts(t *testing.T) { // J1, J2, J3
	m := load(t, "s a > t\nt - > s t")
	checks(t, m, nexts(6), false)
	sats(t, nexts(6), true)
	parts(t, nexts(3), leaf(api.Prop, 0), true)
	parts(t, nexts(3), nexts(3), false)
	both := form(api.And, nexts(6), form(api.Next, not(nexts(5))))
	if n := len(ltl.Parts(both)); n != 12 {
		t.Fatalf("%d Parts", n)
	}
	if _, _, errno := Sat(both); errno != api.ErrMany {
		t.Errorf("12 Parts: %d", errno)
	}
	// Its six Parts are each the opposite of another one: the whole has no more.
	closed := form(api.And, nexts(3), form(api.Next, not(nexts(2))))
	sats(t, closed, false)
	parts(t, closed, leaf(api.False, 0), false)
	parts(t, closed, form(api.Or, nexts(3), leaf(api.Prop, 1)), true)
}

// TestMoreStatesThanFindTakes: automata of such formulas have more than 200.
func TestMoreStatesThanFindTakes(t *testing.T) { // J1, J2
	eventually := leaf(api.True, 0)
	for n := range 6 {
		eventually = form(api.And, eventually, form(api.Finally, leaf(api.Prop, n)))
	}
	var m api.Model
	for s := range 7 {
		m.Names = append(m.Names, "s"+strconv.Itoa(s))
		m.Letters = append(m.Letters, 1<<s>>1)
		m.To = append(m.To, []int{(s + 1) % 7, 0}[:min(2, 7-s)])
	}
	a, _ := auto.Of(eventually)
	if _, _, errno := find.Find(m, a); errno != api.ErrMany {
		t.Fatalf("%d States are not too many: %d", len(a.States), errno)
	}
	checks(t, m, not(eventually), false)
	checks(t, m, eventually, false)
	sats(t, eventually, true)
	m.Letters[6] = 0
	checks(t, m, not(eventually), true)
	again := form(api.And, form(api.Globally, form(api.Finally, eventually)), leaf(api.True, 0))
	if _, _, errno := Check(m, again); errno != api.ErrMany {
		t.Errorf("8 Parts: %d", errno)
	}
}

// tree is any formula of the eight letters, true in half of their sets.
func tree(r *rand.Rand, n int) api.Form {
	if n == 8 {
		return leaf(r.Intn(2), 0)
	}
	p := leaf(api.Prop, n)
	return form(api.Or, form(api.And, p, tree(r, n+1)), form(api.And, not(p), tree(r, n+1)))
}

// TestHardLetters: letters that no few labels tell apart, and all the states that
// a model may have.
func TestHardLetters(t *testing.T) { // J1, J2, J3
	r := rand.New(rand.NewSource(5))
	for range 6 {
		var m api.Model
		for s := range 12 {
			m.Names = append(m.Names, string(rune('a'+s)))
			m.Letters = append(m.Letters, r.Intn(256))
			m.To = append(m.To, r.Perm(12)[:1+r.Intn(12)])
		}
		f := leaf(api.True, 0)
		for i := range 6 {
			f = form(api.And, f, form([]int{api.Until, api.Release}[i%2], tree(r, 0), tree(r, 0)))
		}
		checks(t, m, f, !some(systemOf(m), not(f)))
		checks(t, m, not(f), !some(systemOf(m), f))
		_, sat, errno := Sat(f)
		sats(t, f, sat)
		if errno != api.OK || !sat && some(systemOf(m), f) {
			t.Errorf("%v, %d", sat, errno)
		}
		g := form(api.Until, tree(r, 0), tree(r, 0))
		parts(t, g, form(api.Release, tree(r, 0), tree(r, 0)), true)
		parts(t, g, form(api.Or, g.Kids[1], form(api.And, g.Kids[0], form(api.Next, g))), false)
	}
}

func TestLargeForms(t *testing.T) { // G1
	defer debug.SetMaxStack(debug.SetMaxStack(1 << 18))
	m := load(t, "s a > s")
	nots, shared := leaf(api.Prop, 0), form(api.Finally, leaf(api.Prop, 0))
	for range 200000 {
		nots = not(nots)
	}
	for range 40 {
		shared = form(api.And, shared, shared)
	}
	if _, ok, errno := Check(m, nots); !ok || errno != api.OK {
		t.Errorf("many Nots: %v, %d", ok, errno)
	}
	if _, ok, errno := Check(m, shared); !ok || errno != api.OK {
		t.Errorf("a shared one: %v, %d", ok, errno)
	}
	if _, ok, errno := Apart(nots, leaf(api.Prop, 0)); ok || errno != api.OK {
		t.Errorf("many Nots, and none: %v, %d", ok, errno)
	}
	if _, ok, errno := Sat(shared); !ok || errno != api.OK {
		t.Errorf("a shared one: %v, %d", ok, errno)
	}
	if _, _, errno := Sat(nexts(200000)); errno != api.ErrMany {
		t.Errorf("a deep one: %d", errno)
	}
	if _, _, errno := Apart(leaf(api.True, 0), nexts(200000)); errno != api.ErrMany {
		t.Errorf("a deep one: %d", errno)
	}
}

func TestNewMemory(t *testing.T) { // G3, G4
	m := load(t, "red a > red green\ngreen b > amber\namber - > red")
	f, g := parsed(t, "!F(a & X b & X X X b) & (a U c)"), parsed(t, "a U X b")
	text, first, second := model.Print(m), ltl.Print(f), ltl.Print(g)
	for name, call := range map[string]func() (api.Word, bool, api.Errno){
		"Check": func() (api.Word, bool, api.Errno) { return Check(m, g) },
		"Sat":   func() (api.Word, bool, api.Errno) { return Sat(f) },
		"Apart": func() (api.Word, bool, api.Errno) { return Apart(form(api.Next, leaf(api.Prop, 1)), g) },
	} {
		w, _, errno := call()
		v, _, _ := call()
		if errno != api.OK || len(w.Loop) == 0 || !reflect.DeepEqual(w, v) {
			t.Fatalf("%s: %v, and then %v, %d", name, w, v, errno)
		}
		head, loop := w.Head[:cap(w.Head)], w.Loop[:cap(w.Loop)]
		for i := range head {
			head[i] = 1000
		}
		for i := range loop {
			loop[i] = 2000
		}
		if slices.Contains(head, 2000) || !word.Good(v) {
			t.Errorf("%s: lists share their memory", name)
		}
	}
	if model.Print(m) != text || ltl.Print(f) != first || ltl.Print(g) != second {
		t.Error("what was handed in is changed")
	}
}
