package word

import (
	"math/rand"
	"reflect"
	"runtime/debug"
	"slices"
	"testing"

	"vigil/api"
	"vigil/ltl"
)

func leaf(op, n int) api.Form { return api.Form{Op: op, N: n} }

func form(op int, kids ...api.Form) api.Form { return api.Form{Op: op, Kids: kids} }

func parsed(t *testing.T, s string) api.Form {
	f, e, at := ltl.Parse(s)
	if e != api.OK {
		t.Fatalf("%q: %d, %d", s, e, at)
	}
	return f
}

// anyForm is a formula of letters a and b with at most depth Kids above each other.
func anyForm(r *rand.Rand, depth int) api.Form {
	op := r.Intn(api.Globally + 1)
	if depth == 0 {
		op = []int{api.True, api.False, api.Prop, api.Prop, api.Prop, api.Prop}[r.Intn(6)]
	}
	switch op {
	case api.True, api.False:
		return leaf(op, 0)
	case api.Prop:
		return leaf(op, r.Intn(2))
	case api.Not, api.Next, api.Finally, api.Globally:
		return form(op, anyForm(r, depth-1))
	}
	return form(op, anyForm(r, depth-1), anyForm(r, depth-1))
}

func anyNumbers(r *rand.Rand, n, below int) []int {
	l := make([]int, n)
	for i := range l {
		l[i] = r.Intn(below)
	}
	return l
}

func anyWord(r *rand.Rand, below int) api.Word {
	return api.Word{Head: anyNumbers(r, r.Intn(6), below), Loop: anyNumbers(r, 1+r.Intn(6), below)}
}

// wrongWords are not good, for one reason each.
func wrongWords() map[string]api.Word {
	return map[string]api.Word{
		"nothing":              {},
		"an empty Loop":        {Head: []int{1}, Loop: []int{}},
		"below 0 in Head":      {Head: []int{0, -1}, Loop: []int{1}},
		"below 0 in Loop":      {Loop: []int{1, -1}},
		"above 255 in Head":    {Head: []int{256}, Loop: []int{1}},
		"above 255 in Loop":    {Loop: []int{1, 256}},
		"far off":              {Loop: []int{1 << 62, -1 << 63}},
		"a long Loop":          {Loop: make([]int, 20001)},
		"a long Head":          {Head: make([]int, 20000), Loop: []int{0}},
		"a long Head and Loop": {Head: make([]int, 10000), Loop: make([]int, 10001)},
		"a very long Loop":     {Loop: make([]int, 1<<22)},
	}
}

func TestGood(t *testing.T) { // B1
	for name, w := range map[string]api.Word{
		"short":            {Loop: []int{0}},
		"the edges":        {Head: []int{0, 255}, Loop: []int{255, 0}},
		"the longest Loop": {Loop: make([]int, 20000)},
		"the longest Head": {Head: make([]int, 19999), Loop: []int{0}},
		"the longest both": {Head: make([]int, 10000), Loop: make([]int, 10000)},
	} {
		if !Good(w) {
			t.Errorf("%s is not good", name)
		}
	}
	for name, w := range wrongWords() {
		if Good(w) {
			t.Errorf("%s is good", name)
		}
	}
}

func TestWrongWords(t *testing.T) { // B1, B2, B3
	good := api.Word{Loop: []int{0}}
	for name, w := range wrongWords() {
		if At(w, 0) != -1 || At(w, 7) != -1 || At(w, -1) != -1 {
			t.Errorf("%s: At", name)
		}
		if Truths(leaf(api.True, 0), w) != nil || Holds(leaf(api.True, 0), w) {
			t.Errorf("%s: Truths or Holds", name)
		}
		if l := Least(w); !reflect.DeepEqual(l, api.Word{}) {
			t.Errorf("%s: Least is %v", name, l)
		}
		if Same(w, w) || Same(w, good) || Same(good, w) {
			t.Errorf("%s: Same", name)
		}
	}
}

func TestAt(t *testing.T) { // B1
	w := api.Word{Head: []int{10, 11}, Loop: []int{12, 13, 14}}
	for n, want := range []int{10, 11, 12, 13, 14, 12, 13, 14, 12} {
		if got := At(w, n); got != want {
			t.Errorf("At(%d) = %d, want %d", n, got, want)
		}
	}
	const most = 1<<63 - 1
	for n, want := range map[int]int{-1: -1, -1 << 63: -1, 2 + 3*1000000: 12, most: 12 + (most-2)%3} {
		if got := At(w, n); got != want {
			t.Errorf("At(%d) = %d, want %d", n, got, want)
		}
	}
	if got := At(api.Word{Loop: []int{5}}, most); got != 5 {
		t.Errorf("At of a Loop of one is %d", got)
	}
}

// truth is B2 by its words; behind as many as there are places everything has
// been seen that comes.
func truth(f api.Form, w api.Word, n int) bool {
	kid := func(i, n int) bool { return truth(f.Kids[i], w, n) }
	switch f.Op {
	case api.True, api.False:
		return f.Op == api.True
	case api.Prop:
		return At(w, n)&(1<<f.N) != 0
	case api.Not:
		return !kid(0, n)
	case api.And:
		return kid(0, n) && kid(1, n)
	case api.Or:
		return kid(0, n) || kid(1, n)
	case api.Implies:
		return !kid(0, n) || kid(1, n)
	case api.Next:
		return kid(0, n+1)
	case api.Until:
		for m := n; m <= n+len(w.Head)+len(w.Loop); m++ {
			if kid(1, m) {
				return true
			}
			if !kid(0, m) {
				return false
			}
		}
		return false
	case api.Release:
		return !truth(form(api.Until, form(api.Not, f.Kids[0]), form(api.Not, f.Kids[1])), w, n)
	case api.Finally:
		return truth(form(api.Until, leaf(api.True, 0), f.Kids[0]), w, n)
	}
	return truth(form(api.Release, leaf(api.False, 0), f.Kids[0]), w, n)
}

func TestTruthsOfAny(t *testing.T) { // B2, and A4: Plain says the same
	r := rand.New(rand.NewSource(1))
	for range 20000 {
		f, w := anyForm(r, r.Intn(4)), anyWord(r, 4)
		got := Truths(f, w)
		if len(got) != len(w.Head)+len(w.Loop) {
			t.Fatalf("%s in %v: %d truths", ltl.Print(f), w, len(got))
		}
		for n := range got {
			if got[n] != truth(f, w, n) {
				t.Fatalf("%s in %v: at %d it is %v", ltl.Print(f), w, n, got[n])
			}
		}
		if Holds(f, w) != got[0] {
			t.Fatalf("%s in %v: Holds", ltl.Print(f), w)
		}
		if !slices.Equal(Truths(ltl.Plain(f), w), got) {
			t.Fatalf("%s in %v: Plain says something else", ltl.Print(f), w)
		}
		if not := Truths(form(api.Not, f), w); slices.Equal(not, got) || not[0] == got[0] {
			t.Fatalf("%s in %v: the opposite is no other", ltl.Print(f), w)
		}
	}
}

func TestTruths(t *testing.T) { // B2
	w := api.Word{Head: []int{1, 0}, Loop: []int{2, 3, 128}}
	for s, want := range map[string][]bool{
		"true":            {true, true, true, true, true},
		"false":           {false, false, false, false, false},
		"a":               {true, false, false, true, false},
		"b":               {false, false, true, true, false},
		"h":               {false, false, false, false, true},
		"c":               {false, false, false, false, false},
		"!a":              {false, true, true, false, true},
		"a & b":           {false, false, false, true, false},
		"a | b":           {true, false, true, true, false},
		"a -> b":          {false, true, true, true, true},
		"X b":             {false, true, true, false, true},
		"X X h":           {false, false, true, false, false},
		"b U a":           {true, false, true, true, false},
		"h U b":           {false, false, true, true, true},
		"a R !c":          {true, true, true, true, true},
		"a R b":           {false, false, true, true, false},
		"F a":             {true, true, true, true, true},
		"F(a & !b)":       {true, false, false, false, false},
		"G(a | b)":        {false, false, false, false, false},
		"G(a | b | h)":    {false, false, true, true, true},
		"G F h":           {true, true, true, true, true},
		"F G !h":          {false, false, false, false, false},
		"true U X(a & b)": {true, true, true, true, true},
	} {
		f := parsed(t, s)
		if got := Truths(f, w); !slices.Equal(got, want) {
			t.Errorf("%q: %v, want %v", s, got, want)
		}
		if Holds(f, w) != want[0] {
			t.Errorf("Holds of %q", s)
		}
	}
}

func TestEndlessWaiting(t *testing.T) { // B2: U needs its end, R does not
	w := api.Word{Loop: []int{1}}
	for s, want := range map[string]bool{"a U b": false, "b R a": true, "G a": true, "F b": false, "F !a": false, "a U a": true, "!(a U b)": true} {
		if Holds(parsed(t, s), w) != want {
			t.Errorf("%q in (a)", s)
		}
	}
}

func TestTruthsOfWrongForms(t *testing.T) { // B2, G1
	w := api.Word{Loop: []int{1}}
	loop := make([]api.Form, 2)
	loop[0] = leaf(api.Prop, 0)
	loop[1] = api.Form{Op: api.Or, Kids: loop}
	for _, f := range []api.Form{
		leaf(-1, 0), leaf(12, 0), leaf(api.Prop, 8), leaf(api.Prop, -1), leaf(api.True, 1), leaf(api.And, 0),
		form(api.True, leaf(api.True, 0)), form(api.Not), form(api.Or, leaf(api.True, 0), form(api.Next)),
		form(api.Not, leaf(99, 0)), {Op: api.Or, Kids: loop},
	} {
		if Truths(f, w) != nil || Holds(f, w) {
			t.Errorf("%d: truths of no formula", f.Op)
		}
	}
}

func TestTruthsOfGreatForms(t *testing.T) { // G1
	defer debug.SetMaxStack(debug.SetMaxStack(4 << 20))
	w := api.Word{Head: []int{0}, Loop: []int{1, 0}}
	f := leaf(api.Prop, 0)
	for range 1 << 18 {
		f = form(api.Next, f)
	}
	if got := Truths(f, w); !slices.Equal(got, []bool{false, true, false}) {
		t.Errorf("a deep formula: %v", got)
	}
	f = leaf(api.Prop, 0)
	for range 200 {
		f = form(api.Or, f, form(api.Next, f))
	}
	if got := Truths(f, w); !slices.Equal(got, []bool{true, true, true}) {
		t.Errorf("a formula that holds the same again and again: %v", got)
	}
}

func TestTruthsOfLongWords(t *testing.T) { // B2, at the limit of B1
	w := api.Word{Head: make([]int, 5000), Loop: make([]int, 15000)}
	w.Loop[14999] = 1
	for s, want := range map[string][3]bool{"F a": {true, true, true}, "G !a": {false, false, false}, "G X F a": {true, true, true}, "!a U a": {true, true, true}, "X a": {false, false, false}} {
		got := Truths(parsed(t, s), w)
		if len(got) != 20000 || [3]bool{got[0], got[5000], got[19999]} != want {
			t.Errorf("%q in a long word", s)
		}
	}
}

// leastOf is B3 by its words: the first that means the same, of all lengths.
func leastOf(w api.Word) (head, loop int) {
	all := len(w.Head) + len(w.Loop)
	for loop = 1; ; loop++ {
		for head = 0; head <= all; head++ {
			same := true
			for n := head; n <= head+2*all && same; n++ {
				same = At(w, n) == At(w, n+loop)
			}
			if same {
				return head, loop
			}
		}
	}
}

func TestLeastOfAny(t *testing.T) { // B3
	r := rand.New(rand.NewSource(2))
	for range 20000 {
		w := anyWord(r, 1+r.Intn(3))
		for range r.Intn(3) {
			w.Loop = append(w.Loop, w.Loop[:len(w.Loop):len(w.Loop)]...)
		}
		w.Head = append(w.Head, w.Loop[:r.Intn(len(w.Loop)+1)]...)
		got := Least(w)
		head, loop := leastOf(w)
		if len(got.Head) != head || len(got.Loop) != loop {
			t.Fatalf("Least of %v is %v, want %d and %d", w, got, head, loop)
		}
		for n := range 60 {
			if At(got, n) != At(w, n) {
				t.Fatalf("Least of %v is %v, which means something else", w, got)
			}
		}
	}
}

func TestLeast(t *testing.T) { // B3
	for _, c := range []struct{ w, want api.Word }{
		{api.Word{Loop: []int{7}}, api.Word{Loop: []int{7}}},
		{api.Word{Head: []int{7, 7}, Loop: []int{7, 7, 7}}, api.Word{Loop: []int{7}}},
		{api.Word{Head: []int{1}, Loop: []int{2, 1}}, api.Word{Loop: []int{1, 2}}},
		{api.Word{Head: []int{2}, Loop: []int{2, 1}}, api.Word{Head: []int{2}, Loop: []int{2, 1}}},
		{api.Word{Loop: []int{1, 2, 1}}, api.Word{Loop: []int{1, 2, 1}}},
		{api.Word{Loop: []int{1, 1, 2, 1, 1, 2}}, api.Word{Loop: []int{1, 1, 2}}},
		{api.Word{Head: []int{9, 2, 1, 2, 1, 2}, Loop: []int{1, 2}}, api.Word{Head: []int{9}, Loop: []int{2, 1}}},
	} {
		got := Least(c.w)
		if !slices.Equal(got.Head, c.want.Head) || !slices.Equal(got.Loop, c.want.Loop) {
			t.Errorf("Least of %v is %v, want %v", c.w, got, c.want)
		}
	}
	long := api.Word{Head: make([]int, 10000), Loop: make([]int, 10000)}
	if got := Least(long); len(got.Head) != 0 || len(got.Loop) != 1 {
		t.Error("Least of a long word")
	}
	long.Loop[9999] = 1
	if got := Least(long); len(got.Head) != 10000 || len(got.Loop) != 10000 {
		t.Error("Least of a long word that is the least")
	}
}

func TestSameOfAny(t *testing.T) { // B3
	r := rand.New(rand.NewSource(3))
	count := 0
	for range 30000 {
		u, w := anyWord(r, 2), anyWord(r, 2)
		want := true
		for n := range 80 {
			want = want && At(u, n) == At(w, n)
		}
		if Same(u, w) != want || Same(w, u) != want || !Same(u, u) || !Same(u, Least(u)) {
			t.Fatalf("Same of %v and %v", u, w)
		}
		if want {
			count++
		}
	}
	if count < 100 {
		t.Errorf("only %d pairs meant the same", count)
	}
}

func TestAnswersShareNothing(t *testing.T) { // G4
	w := api.Word{Head: []int{1, 2, 3}, Loop: []int{4, 5, 6}}
	got := Least(w)
	for _, l := range [][]int{got.Head, got.Loop} {
		for i := range l {
			l[i] = 99
		}
		_ = append(l, 98)
	}
	if !reflect.DeepEqual(w, api.Word{Head: []int{1, 2, 3}, Loop: []int{4, 5, 6}}) || got.Loop[0] != 99 {
		t.Errorf("Least shares memory with its argument: %v", w)
	}
	backing := []int{1, 2, 3, 4}
	u := api.Word{Head: backing[:2], Loop: backing[2:]}
	f := parsed(t, "a U X b")
	Truths(f, u)
	Least(u)
	Same(u, u)
	if !slices.Equal(backing, []int{1, 2, 3, 4}) {
		t.Errorf("a call changed its argument: %v", backing)
	}
	one := Truths(f, u)
	one[0] = !one[0]
	if Truths(f, u)[0] == one[0] {
		t.Error("two answers share memory")
	}
}
