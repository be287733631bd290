package ltl

import (
	"math/rand"
	"reflect"
	"strings"
	"testing"

	"vigil/api"
)

func TestParseOfEachKind(t *testing.T) { // A1, A2
	a, b, c := letter('a'), letter('b'), letter('c')
	for s, want := range map[string]api.Form{
		"true": leaf(api.True, 0), "false": leaf(api.False, 0), "a": a, "h": letter('h'),
		"!a": form(api.Not, a), "Xa": form(api.Next, a), "F a": form(api.Finally, a), "G  a": form(api.Globally, a),
		"a&b": form(api.And, a, b), "a|b": form(api.Or, a, b), "a->b": form(api.Implies, a, b),
		"aUb": form(api.Until, a, b), "aRb": form(api.Release, a, b),
		"a&b&c":        form(api.And, form(api.And, a, b), c),
		"a|b|c":        form(api.Or, form(api.Or, a, b), c),
		"a->b->c":      form(api.Implies, a, form(api.Implies, b, c)),
		"aUbRc":        form(api.Until, a, form(api.Release, b, c)),
		"a&(b&c)":      form(api.And, a, form(api.And, b, c)),
		"(a->b)->c":    form(api.Implies, form(api.Implies, a, b), c),
		"a&b|c":        form(api.Or, form(api.And, a, b), c),
		"a|b->c":       form(api.Implies, form(api.Or, a, b), c),
		"aUb&c":        form(api.And, form(api.Until, a, b), c),
		"!aUb":         form(api.Until, form(api.Not, a), b),
		"!(aUb)":       form(api.Not, form(api.Until, a, b)),
		" ( ( a ) )  ": a,
		"trueUfalse":   form(api.Until, leaf(api.True, 0), leaf(api.False, 0)),
	} {
		if f, e, at := Parse(s); e != api.OK || at != 0 || !reflect.DeepEqual(f, want) {
			t.Errorf("Parse(%q) = %v, %d, %d, want %v", s, f, e, at, want)
		}
	}
}

func TestParseFaults(t *testing.T) { // A2
	signs := func(n int) string { return strings.Repeat("XFG!(", 4)[:n] }
	for _, c := range []struct {
		s  string
		e  api.Errno
		at int
	}{
		{"", api.ErrForm, 0}, {"   ", api.ErrForm, 3}, {"i", api.ErrForm, 0}, {"z", api.ErrForm, 0}, {"aa", api.ErrForm, 0},
		{"a | truely", api.ErrForm, 4}, {"tru", api.ErrForm, 0}, {"True", api.ErrForm, 0}, {"a true", api.ErrForm, 2},
		{"a b", api.ErrForm, 2}, {"a X b", api.ErrForm, 2}, {"a !", api.ErrForm, 2}, {"a(b)", api.ErrForm, 1},
		{"()", api.ErrForm, 1}, {"(a", api.ErrForm, 2}, {"(a  ", api.ErrForm, 4}, {"a)", api.ErrForm, 1}, {"(a b)", api.ErrForm, 3},
		{"a-", api.ErrForm, 2}, {"a- >b", api.ErrForm, 2}, {"a-b", api.ErrForm, 2}, {"a>b", api.ErrForm, 1}, {"-", api.ErrForm, 0}, {"a->", api.ErrForm, 3},
		{"a &", api.ErrForm, 3}, {"& a", api.ErrForm, 0}, {"a && b", api.ErrForm, 3}, {"a U U b", api.ErrForm, 4}, {"a |", api.ErrForm, 3},
		{"a\tb", api.ErrForm, 1}, {"\ta", api.ErrForm, 0}, {"a\n", api.ErrForm, 1}, {"\x00", api.ErrForm, 0}, {"a\x00", api.ErrForm, 1},
		{"a & \xff", api.ErrForm, 4}, {"é", api.ErrForm, 0}, {"a1", api.ErrForm, 1}, {"a U", api.ErrForm, 3}, {"X", api.ErrForm, 1},
		{signs(20) + "Xa", api.ErrDeep, 20}, {signs(20) + "(a)", api.ErrDeep, 20}, {signs(20) + "!", api.ErrDeep, 20},
		{signs(20) + "F", api.ErrDeep, 20}, {signs(20) + "G", api.ErrDeep, 20},
		{signs(20) + "a", api.ErrForm, 21}, {signs(20) + "i", api.ErrForm, 20}, {signs(20), api.ErrForm, 20},
		{"  " + strings.Repeat("( ", 20) + "( ", api.ErrDeep, 42},
		{"i" + signs(20) + "Xa", api.ErrForm, 0},
		{strings.Repeat("X", 20) + "a U " + strings.Repeat("X", 21) + "a", api.ErrDeep, 44},
		{strings.Repeat("a", 201), api.ErrLong, 0}, {strings.Repeat(" ", 200) + "a", api.ErrLong, 0},
		{strings.Repeat("\xff", 1<<20), api.ErrLong, 0}, {strings.Repeat(" ", 200), api.ErrForm, 200},
	} {
		if f, e, at := Parse(c.s); e != c.e || at != c.at || !reflect.DeepEqual(f, api.Form{}) {
			t.Errorf("Parse(%q) = %v, %d, %d, want %d, %d", c.s, f, e, at, c.e, c.at)
		}
	}
}

func TestParseBounds(t *testing.T) { // A2
	for _, s := range []string{
		strings.Repeat(" ", 199) + "a",
		"a" + strings.Repeat(" ", 199),
		"a" + strings.Repeat("&a", 99) + " ",
		"a" + strings.Repeat("Ua", 99) + " ",
		"a" + strings.Repeat("->a", 66),
		strings.Repeat("X", 20) + "a",
		strings.Repeat("(", 20) + "a" + strings.Repeat(")", 20),
		strings.Repeat("X", 20) + "a U " + strings.Repeat("X", 20) + "a",
		strings.Repeat("(", 20) + "a" + strings.Repeat(")", 20) + "&" + strings.Repeat("!", 20) + "a",
		strings.Repeat("((a)&X!(b))|", 10) + "a",
	} {
		if _, e, at := Parse(s); e != api.OK || at != 0 {
			t.Errorf("Parse(%q): %d, %d", s, e, at)
		}
	}
}

// fate tells an error and its place, by what may stand behind each word and sign.
func fate(s string) (api.Errno, int) {
	operand := true    // whether one must come
	ahead := 0         // the signs right ahead of this place
	var brackets []int // of each open one the signs right ahead of it
	depth := func() int {
		n := ahead + len(brackets)
		for _, b := range brackets {
			n += b
		}
		return n
	}
	for i := 0; i < len(s); i++ {
		c := s[i]
		switch {
		case c == ' ':
		case operand && strings.IndexByte("!XFG(", c) >= 0:
			if depth() == 20 {
				return api.ErrDeep, i
			}
			if c == '(' {
				brackets, ahead = append(brackets, ahead), -1
			}
			ahead++
		case operand && c >= 'a' && c <= 'z':
			w := s[i:]
			w = w[:len(w)-len(strings.TrimLeft(w, "abcdefghijklmnopqrstuvwxyz"))]
			if w != "true" && w != "false" && (len(w) > 1 || c > 'h') {
				return api.ErrForm, i
			}
			i += len(w) - 1
			operand, ahead = false, 0
		case !operand && strings.IndexByte("|&UR", c) >= 0:
			operand = true
		case !operand && c == '-':
			i++
			if i == len(s) || s[i] != '>' {
				return api.ErrForm, i
			}
			operand = true
		case !operand && c == ')' && len(brackets) > 0:
			brackets = brackets[:len(brackets)-1]
		default:
			return api.ErrForm, i
		}
	}
	if operand || len(brackets) > 0 {
		return api.ErrForm, len(s)
	}
	return api.OK, 0
}

func checkFate(t *testing.T, s string) {
	e, at := fate(s)
	if _, e1, at1 := Parse(s); e1 != e || at1 != at {
		t.Fatalf("Parse(%q): %d, %d, want %d, %d", s, e1, at1, e, at)
	}
}

func TestParseOfAllShortTexts(t *testing.T) { // A1, A2
	const bytes = " aiXU(&)->"
	texts := []string{""}
	for range 5 {
		var longer []string
		for _, s := range texts {
			checkFate(t, s)
			for _, c := range bytes {
				longer = append(longer, s+string(c))
			}
		}
		texts = longer
	}
	for _, s := range texts {
		checkFate(t, s)
	}
}

func TestParseOfAnyTexts(t *testing.T) { // A1, A2
	r := rand.New(rand.NewSource(1))
	pieces := []string{"a", "h", " ", "true", "false", "!", "X", "F", "G", "(", "(", ")", "&", "|", "->", "U", "R", "i", "-", ">", "\n", "ab"}
	good := 0
	for range 300000 {
		s := strings.Repeat([]string{"", "X", "(!"}[r.Intn(3)], r.Intn(20))
		operand := true
		for range r.Intn(20) { // mostly what may stand there, so that many are formulas
			p := pieces[r.Intn(len(pieces))]
			if fits := operand == strings.Contains(" a h true false ! X F G ( ", " "+p+" "); !fits && p != " " && r.Intn(30) > 0 {
				continue
			}
			s += p
			if p != " " && !strings.Contains("!XFG(", p) {
				operand = strings.Contains("&|->UR", p)
			}
		}
		if len(s) > 200 {
			continue
		}
		checkFate(t, s)
		if e, _ := fate(s); e == api.OK {
			good++
		}
	}
	if good < 1000 {
		t.Errorf("only %d formulas among the texts", good)
	}
}

// lean writes a formula with no bracket that is not needed, and blanks anywhere.
func lean(r *rand.Rand, f api.Form, level int) string {
	own := []int{4, 4, 4, 4, 2, 1, 0, 4, 3, 3, 4, 4}[f.Op]
	left, right := own, own+1 // levels of the Kids: from the left And and Or, else from the right
	if f.Op != api.And && f.Op != api.Or {
		left, right = own+1, own
	}
	sign := []string{"true", "false", "", "!", "&", "|", "->", "X", "U", "R", "F", "G"}[f.Op]
	blank := func() string { return strings.Repeat(" ", max(0, r.Intn(4)-2)) }
	s := ""
	switch {
	case len(f.Kids) == 2:
		s = lean(r, f.Kids[0], left) + blank() + sign + blank() + lean(r, f.Kids[1], right)
	case len(f.Kids) == 1:
		s = sign + blank() + lean(r, f.Kids[0], 4)
	case f.Op == api.Prop:
		s = string(rune('a' + f.N))
	default:
		s = sign
	}
	if own < level {
		s = "(" + blank() + s + blank() + ")"
	}
	return blank() + s + blank()
}

func TestParseOfLeanTexts(t *testing.T) { // A1, A2: what binds what
	r := rand.New(rand.NewSource(2))
	done := 0
	for range 20000 {
		f := anyForm(r, r.Intn(7))
		for _, s := range []string{lean(r, f, 0), Print(f)} {
			if len(s) > 200 {
				continue
			}
			done++
			if g, e, at := Parse(s); e != api.OK || at != 0 || !reflect.DeepEqual(f, g) {
				t.Fatalf("Parse(%q) = %s, %d, %d, want %s", s, Print(g), e, at, Print(f))
			}
		}
	}
	if done < 10000 {
		t.Errorf("only %d texts were read", done)
	}
}
