package ltl

import (
	"maps"
	"math/rand"
	"reflect"
	"runtime/debug"
	"strings"
	"testing"

	"vigil/api"
)

func leaf(op, n int) api.Form { return api.Form{Op: op, N: n} }

func form(op int, kids ...api.Form) api.Form { return api.Form{Op: op, Kids: kids} }

func letter(c byte) api.Form { return leaf(api.Prop, int(c-'a')) }

// anyForm is a formula of letters with at most depth Kids above each other.
func anyForm(r *rand.Rand, depth int) api.Form {
	op := r.Intn(api.Globally + 1)
	if depth == 0 {
		op = r.Intn(api.Prop + 1)
	}
	switch op {
	case api.True, api.False:
		return leaf(op, 0)
	case api.Prop:
		return leaf(op, r.Intn(8))
	case api.Not, api.Next, api.Finally, api.Globally:
		return form(op, anyForm(r, depth-1))
	}
	return form(op, anyForm(r, depth-1), anyForm(r, depth-1))
}

// wrongForms are no formulas of letters, for one reason each.
func wrongForms() map[string]api.Form {
	a := letter('a')
	loop := make([]api.Form, 1)
	loop[0] = form(api.Not, loop...)
	pair := []api.Form{a, a}
	pair[1] = api.Form{Op: api.Until, Kids: pair}
	wrong := map[string]api.Form{
		"Op below True":       leaf(-1, 0),
		"Op above Globally":   leaf(12, 0),
		"Op far off":          leaf(1<<62, 0),
		"letter below a":      leaf(api.Prop, -1),
		"letter above h":      leaf(api.Prop, 8),
		"itself, with Not":    {Op: api.Not, Kids: loop},
		"itself, with Until":  {Op: api.Until, Kids: pair},
		"itself, deep within": form(api.And, a, form(api.Next, pair[1])),
		"many Kids":           {Op: api.And, Kids: make([]api.Form, 100000)},
	}
	for op, name := range []string{"True", "False", "Prop", "Not", "And", "Or", "Implies", "Next", "Until", "Release", "Finally", "Globally"} {
		kids := []int{0, 0, 0, 1, 2, 2, 2, 1, 2, 2, 1, 1}[op]
		wrong[name+" with one Kid more"] = api.Form{Op: op, Kids: []api.Form{a, a, a}[:kids+1]}
		if kids > 0 {
			wrong[name+" with one Kid less"] = api.Form{Op: op, Kids: []api.Form{a, a}[:kids-1]}
		}
		if op != api.Prop {
			wrong[name+" with an N"] = api.Form{Op: op, N: 1, Kids: []api.Form{a, a}[:kids]}
		}
	}
	for name, f := range maps.Clone(wrong) {
		wrong[name+", on the right"] = form(api.Or, a, f)
	}
	return wrong
}

func TestPrintOfEachKind(t *testing.T) { // A3
	a, h := letter('a'), letter('h')
	for want, f := range map[string]api.Form{
		"true": leaf(api.True, 0), "false": leaf(api.False, 0), "a": a, "h": h,
		"!a": form(api.Not, a), "Xa": form(api.Next, a), "Fa": form(api.Finally, a), "Ga": form(api.Globally, a),
		"(a&h)": form(api.And, a, h), "(a|h)": form(api.Or, a, h), "(a->h)": form(api.Implies, a, h),
		"(aUh)": form(api.Until, a, h), "(aRh)": form(api.Release, a, h),
		"!(a&h)":            form(api.Not, form(api.And, a, h)),
		"((a|h)U(h->true))": form(api.Until, form(api.Or, a, h), form(api.Implies, h, leaf(api.True, 0))),
	} {
		if got := Print(f); got != want {
			t.Errorf("Print of %v is %q, want %q", f, got, want)
		}
	}
	if got := Print(api.Form{Op: api.True, Kids: []api.Form{}}); got != "true" {
		t.Errorf("Print of true with an empty list is %q", got)
	}
}

// spelt is A3 by its words.
func spelt(f api.Form) string {
	signs := []string{"true", "false", "", "!", "&", "|", "->", "X", "U", "R", "F", "G"}
	switch len(f.Kids) {
	case 2:
		return "(" + spelt(f.Kids[0]) + signs[f.Op] + spelt(f.Kids[1]) + ")"
	case 1:
		return signs[f.Op] + spelt(f.Kids[0])
	}
	if f.Op == api.Prop {
		return string(rune('a' + f.N))
	}
	return signs[f.Op]
}

func TestPrintOfAny(t *testing.T) { // A3
	r := rand.New(rand.NewSource(3))
	for range 3000 {
		f := anyForm(r, r.Intn(6))
		if got, want := Print(f), spelt(f); got != want {
			t.Fatalf("Print is %q, want %q", got, want)
		}
	}
}

func TestWrongForms(t *testing.T) { // A3, A4, G1
	for name, f := range wrongForms() {
		Print(f)
		if p := Plain(f); !reflect.DeepEqual(p, leaf(api.False, 0)) {
			t.Errorf("%s: Plain is %v", name, p)
		}
		if l := Parts(f); l != nil {
			t.Errorf("%s: %d Parts", name, len(l))
		}
	}
}

func TestPlainRules(t *testing.T) { // A4
	for s, want := range map[string]string{
		"true": "true", "false": "false", "c": "c", "!c": "!c",
		"a -> b": "(!a|b)", "F a": "(trueUa)", "G a": "(falseRa)",
		"!true": "false", "!false": "true", "!!a": "a", "!!!a": "!a", "!!!!a": "a",
		"!(a & b)": "(!a|!b)", "!(a | b)": "(!a&!b)", "!X a": "X!a",
		"!(a U b)": "(!aR!b)", "!(a R b)": "(!aU!b)", "!(a -> b)": "(a&!b)",
		"!F a": "(falseR!a)", "!G a": "(trueU!a)", "!G !a": "(trueUa)", "F G a": "(trueU(falseRa))",
		"!(a -> !F(b -> X c))":  "(a&(trueU(!b|Xc)))",
		"true & (false | true)": "(true&(false|true))",
		"X !(a U !X !b)":        "X(!aRX!b)",
	} {
		f, e, _ := Parse(s)
		if got := Print(Plain(f)); e != api.OK || got != want {
			t.Errorf("Plain of %q is %q, want %q", s, got, want)
		}
	}
}

// rewritten is A4 by its words: one rule at a time, as long as one fits.
func rewritten(f api.Form) api.Form {
	for {
		g, done := ruleAt(f)
		if done {
			break
		}
		f = g
	}
	kids := []api.Form(nil)
	for _, k := range f.Kids {
		kids = append(kids, rewritten(k))
	}
	return api.Form{Op: f.Op, N: f.N, Kids: kids}
}

func ruleAt(f api.Form) (api.Form, bool) {
	not := func(g api.Form) api.Form { return form(api.Not, g) }
	k := f.Kids
	switch f.Op {
	case api.Implies:
		return form(api.Or, not(k[0]), k[1]), false
	case api.Finally:
		return form(api.Until, leaf(api.True, 0), k[0]), false
	case api.Globally:
		return form(api.Release, leaf(api.False, 0), k[0]), false
	case api.Not:
	default:
		return f, true
	}
	g := k[0]
	k = g.Kids
	switch g.Op {
	case api.True:
		return leaf(api.False, 0), false
	case api.False:
		return leaf(api.True, 0), false
	case api.Not:
		return k[0], false
	case api.And:
		return form(api.Or, not(k[0]), not(k[1])), false
	case api.Or:
		return form(api.And, not(k[0]), not(k[1])), false
	case api.Next:
		return form(api.Next, not(k[0])), false
	case api.Until:
		return form(api.Release, not(k[0]), not(k[1])), false
	case api.Release:
		return form(api.Until, not(k[0]), not(k[1])), false
	case api.Prop:
		return f, true
	}
	g, _ = ruleAt(g)
	return not(g), false
}

// partsOf is Parts by its words, of a plain formula.
func partsOf(f api.Form, found []api.Form) []api.Form {
	for _, k := range f.Kids {
		found = partsOf(k, found)
	}
	if f.Op < api.Next || f.Op > api.Release {
		return found
	}
	for _, g := range found {
		if reflect.DeepEqual(f, g) {
			return found
		}
	}
	return append(found, f)
}

func TestPlainAndPartsOfAny(t *testing.T) { // A4
	r := rand.New(rand.NewSource(4))
	for range 3000 {
		f := anyForm(r, r.Intn(7))
		want := rewritten(f)
		if got := Plain(f); !reflect.DeepEqual(got, want) {
			t.Fatalf("Plain of %s is %s, want %s", spelt(f), Print(got), Print(want))
		}
		if got, want := Parts(f), partsOf(want, nil); !reflect.DeepEqual(got, want) {
			t.Fatalf("Parts of %s: %v, want %v", spelt(f), got, want)
		}
	}
}

func TestPartsOrder(t *testing.T) { // A4
	for s, want := range map[string]string{
		"a & !b":                   "",
		"X a":                      "Xa",
		"X a & X a":                "Xa",
		"X b & X a":                "Xb Xa",
		"(X a) U (b R c)":          "Xa (bRc) (XaU(bRc))",
		"F a -> G !a":              "(falseR!a)",
		"!(X X a -> X a)":          "Xa XXa X!a",
		"F a & !G !a & (true U a)": "(trueUa)",
	} {
		f, _, _ := Parse(s)
		var got []string
		for _, p := range Parts(f) {
			got = append(got, Print(p))
		}
		if strings.Join(got, " ") != want {
			t.Errorf("Parts of %q: %q, want %q", s, got, want)
		}
	}
}

// scratch overwrites all that a Form holds.
func scratch(f *api.Form) {
	for i := range f.Kids {
		scratch(&f.Kids[i])
	}
	f.Op, f.N = -7, -7
}

func TestAnswersShareNothing(t *testing.T) { // G4
	r := rand.New(rand.NewSource(5))
	for range 300 {
		f := anyForm(r, 5)
		text := spelt(f)
		want := Plain(f)
		got := Plain(f)
		parts := Parts(f)
		for i := range parts {
			scratch(&parts[i])
			for _, later := range parts[i+1:] {
				if Print(later) == "" { // as of no formula
					t.Fatalf("two Parts of %s share memory", text)
				}
			}
		}
		scratch(&got)
		if spelt(f) != text {
			t.Fatalf("an answer shares memory with its argument %s", text)
		}
		if !reflect.DeepEqual(Plain(f), want) {
			t.Fatalf("two answers for %s share memory", text)
		}
	}
	a := form(api.Or, letter('a'), letter('a'))
	shared := form(api.And, a, a)
	b := Plain(shared)
	scratch(&b.Kids[0])
	if Print(b.Kids[1]) != "(a|a)" || Print(shared) != "((a|a)&(a|a))" {
		t.Error("two Kids of an answer share memory")
	}
}

func TestDeepForms(t *testing.T) { // G1: deeper than calls may be nested
	defer debug.SetMaxStack(debug.SetMaxStack(4 << 20))
	const depth = 1 << 18
	f := letter('a')
	for range depth {
		f = form(api.Not, f)
	}
	if s := Print(f); len(s) != depth+1 || s[0] != '!' || s[depth] != 'a' {
		t.Error("Print of a deep formula")
	}
	if p := Plain(f); Print(p) != "a" {
		t.Error("Plain of a deep formula")
	}
	if l := Parts(form(api.Next, f)); len(l) != 1 || Print(l[0]) != "Xa" {
		t.Error("Parts of a deep formula")
	}
	f = leaf(api.True, 0)
	for range depth {
		f = form(api.And, letter('b'), f)
	}
	if s := Print(Plain(f)); len(s) != 4*depth+len("true") {
		t.Error("Plain of a deep And")
	}
}

func TestSharedForms(t *testing.T) { // G1: much more when written out than in memory
	f := form(api.Next, letter('a'))
	for range 100 {
		f = form(api.And, f, f)
	}
	if l := Parts(f); len(l) != 1 || Print(l[0]) != "Xa" {
		t.Error("Parts of a formula that holds the same again and again")
	}
	Print(f)
	Plain(f)
	for range 100 {
		f = form(api.Until, f, f)
	}
	Parts(f)
}
