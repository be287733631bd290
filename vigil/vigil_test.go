package vigil

import (
	"math/rand"
	"reflect"
	"runtime"
	"slices"
	"strconv"
	"strings"
	"testing"
	"time"

	"vigil/api"
	"vigil/check"
	"vigil/ltl"
	"vigil/model"
	"vigil/proof"
	"vigil/word"
)

const light = "model red a > red green;green b > red"

// talk holds a session's answers against what they should be: a line, and its
// answer.
func talk(t *testing.T, s *Session, lines [][2]string) {
	t.Helper()
	for _, l := range lines {
		if got := s.Line(l[0]); got != l[1] {
			t.Errorf("%.60q is answered %.60q, want %.60q", l[0], got, l[1])
		}
	}
}

func TestExamples(t *testing.T) { // L1, L2
	s := New()
	talk(t, s, [][2]string{
		{light, "2"},
		{"check G F a", "holds"},
		{"trace red,(green,red)", "a,(b,a)"},
		{"word a,(b,-);a U b", "yes"},
		{"word (a);F !a", "no"},
		{"apart F F a;F a", "same"},
		{"check G F b", "(red)"},
	})
	for line, f := range map[string]string{"sat a & X !a": "a & X !a", "apart F a;G a": "!(F a -> G a)"} {
		if w := s.Line(line); s.Line("word "+w+";"+f) != "yes" {
			t.Errorf("%s: %q", line, w)
		}
	}
}

func parsed(t *testing.T, s string) api.Form {
	t.Helper()
	f, errno, at := ltl.Parse(s)
	if errno != api.OK {
		t.Fatalf("%q: %d, %d", s, errno, at)
	}
	return f
}

func TestModel(t *testing.T) { // L2
	talk(t, New(), [][2]string{
		{"model s a > s", "1"},
		{"model  s  a  >  s ; ; t - > s t;", "2"},
		{"check a", "holds"},
		{"trace s,(t)", "ERR 2"},
		{"trace (s)", "(a)"},
		{"model x b > y;y - > x", "2"},
		{"check a", "(x,y)"},
		{"check b", "holds"},
		{"trace (s)", "ERR 2"},
		{"trace (x,y)", "(b,-)"},
		// Where it is none, the model stays.
		{"model ", "ERR 6 0"},
		{"model ;;", "ERR 6 0"},
		{"model x", "ERR 2 1"},
		{"model x - > x;y", "ERR 2 2"},
		{"model x - > x;;y - > y y", "ERR 5 3"},
		{"model x - > x;x - > x", "ERR 5 2"},
		{"model x - > x;y - > z", "ERR 6 2"},
		{"model x - > x\ny - > z", "ERR 6 2"},
		{"model " + strings.Repeat("x", 1001), "ERR 1 0"},
		{"model " + strings.Repeat(";", 1001), "ERR 1 0"},
		{"model " + strings.Repeat(";", 1000), "ERR 6 0"},
		{"model " + strings.Repeat(";", 999) + "x", "ERR 2 1000"},
		{"model", "ERR 2"},
		{"modelx - > x", "ERR 2"},
		{"model\tx - > x", "ERR 2"},
		{"model;x - > x", "ERR 2"},
		{"trace (x,y)", "(b,-)"},
		{"model a - > a\nb - > a;c - > a", "3"},
		{"model " + states(12), "12"},
		{"model " + states(13), "ERR 4 13"},
		{"trace (s0,s1)", "(-,-)"},
	})
}

// states is a model of so many.
func states(n int) string {
	var lines []string
	for i := range n {
		lines = append(lines, "s"+strconv.Itoa(i)+" - > s0 s"+strconv.Itoa(max(i, 1)))
	}
	return strings.Join(lines, ";")
}

func TestWithoutModel(t *testing.T) { // L2
	for _, word := range []string{"check", "prove", "trace"} {
		for _, rest := range []string{"", " ", " a", " (s)", " G", " XXXXXXXa", " i", "  ", " ;", " \x00\xff", " " + strings.Repeat("(", 1000)} {
			s := New()
			talk(t, s, [][2]string{
				{word + rest, "ERR 6"},
				{"model x", "ERR 2 1"},
				{word + rest, "ERR 6"},
				{"model s a > s", "1"},
			})
			if got := s.Line(word + rest); strings.HasPrefix(got, "ERR 6") {
				t.Errorf("%q with a model: %q", word+rest, got)
			}
		}
		talk(t, New(), [][2]string{{word + "x", "ERR 2"}, {" " + word, "ERR 2"}, {strings.ToUpper(word), "ERR 2"}, {word[1:], "ERR 2"}})
	}
	talk(t, New(), [][2]string{{"show a", "a"}, {"sat false", "never"}, {"apart a;a", "same"}, {"word (a);a", "yes"}})
}

func TestOtherLines(t *testing.T) { // L2
	s := New()
	lines := []string{
		"", " ", "foo", "foo a", "  check a", " check a", "checka", "check\ta", "check\na", "Check a", "check;a", "shows a", "sho a", "show", "sat", "apart", "word", "model",
		"prove", "check", "trace", "words (a);a", "holds a", "\x00", "\xff\xfe", "\u00e4 a", strings.Repeat("x", 1<<20), strings.Repeat(" ", 1<<20), strings.Repeat("check", 1<<18),
	}
	s.Line(light)
	for _, l := range lines {
		talk(t, s, [][2]string{{l, "ERR 2"}})
	}
	talk(t, s, [][2]string{{"check G F a", "holds"}})
}

func TestFormulas(t *testing.T) { // L2
	s := New()
	s.Line(light)
	errs := [][2]string{
		{"", "ERR 2 0"}, {" ", "ERR 2 1"}, {"G", "ERR 2 1"}, {"i", "ERR 2 0"}, {"a b", "ERR 2 2"}, {"a;b", "ERR 2 1"}, {"a\n", "ERR 2 1"}, {"(a", "ERR 2 2"},
		{"a & tru", "ERR 2 4"}, {"\xff", "ERR 2 0"}, {strings.Repeat("!", 21) + "a", "ERR 3 20"}, {strings.Repeat("a", 201), "ERR 1 0"}, {strings.Repeat(" ", 200), "ERR 2 200"},
		{strings.Repeat("(", 1<<20), "ERR 1 0"},
	}
	for _, e := range errs {
		for _, word := range []string{"show ", "check ", "prove ", "sat "} {
			talk(t, s, [][2]string{{word + e[0], e[1]}})
		}
		talk(t, s, [][2]string{{"word (a);" + e[0], e[1]}, {"apart a;" + e[0], e[1]}})
		if !strings.Contains(e[0], ";") {
			talk(t, s, [][2]string{{"apart " + e[0] + ";a", e[1]}, {"apart " + e[0] + ";i", e[1]}, {"apart " + e[0] + ";", e[1]}})
		}
	}
	for _, many := range []string{"XXXXXXXa", "F a & F b & F c & F d & F e & F f & F g", "G!XXXXXXXa"} {
		talk(t, s, [][2]string{{"check " + many, "ERR 4"}, {"prove " + many, "ERR 4"}, {"sat " + many, "ERR 4"}, {"apart a;" + many, "ERR 4"}, {"apart " + many + ";a", "ERR 4"}})
	}
	talk(t, s, [][2]string{
		{"apart XXXXa;a", "ERR 4"},
		{"apart XXXa;XXXa", "same"},
		{"apart XXXXXXXa;i", "ERR 2 0"},
		{"word (a);XXXXXXXa", "yes"},
		{"show XXXXXXXa", "XXXXXXXa"},
		{"show  G ( a -> F b ) ", "G(a->Fb)"},
		{"show a & b & c | d U e U f -> g R h", "((((a&b)&c)|(dU(eUf)))->(gRh))"},
		{"show !true|false", "(!true|false)"},
		{"show " + strings.Repeat(" ", 199) + "h", "h"},
		{"apart", "ERR 2"}, {"apart ", "ERR 2"}, {"apart a", "ERR 2"}, {"apart i", "ERR 2"}, {"apart ;", "ERR 2 0"}, {"apart a;", "ERR 2 0"}, {"apart ;a", "ERR 2 0"},
		{"apart a;a;a", "ERR 2 1"}, {"apart a U;i", "ERR 2 3"}, {"apart  a ; a ", "same"},
	})
}

func TestProve(t *testing.T) { // L2
	talk(t, New(), [][2]string{
		{light, "2"},
		{"prove G F b", "open"},
		{"prove true", "empty"},
		{"prove a", "empty"},
		{"prove false", "open"},
		{"model s a > s", "1"},
		{"prove G a", "0.1.0.0"},
		{"prove X a", "0.1.0.0"},
	})
}

// entriesOf reads what prove answers.
func entriesOf(t *testing.T, s string) []api.Entry {
	t.Helper()
	if s == "empty" {
		return nil
	}
	var l []api.Entry
	for _, text := range strings.Split(s, " ") {
		var numbers []int
		for _, n := range strings.Split(text, ".") {
			i, err := strconv.Atoi(n)
			if err != nil || strconv.Itoa(i) != n {
				t.Fatalf("%q has %q", s, n)
			}
			numbers = append(numbers, i)
		}
		if len(numbers) != 4 {
			t.Fatalf("%q has %q", s, text)
		}
		l = append(l, api.Entry{State: numbers[0], Set: numbers[1], Rank: numbers[2], Which: numbers[3]})
	}
	return l
}

// anyForm has letters a and b, and at most depth Kids above each other.
func anyForm(r *rand.Rand, depth int) string {
	if depth == 0 {
		return []string{"a", "b", "a", "b", "true", "false"}[r.Intn(6)]
	}
	kid := func() string { return anyForm(r, r.Intn(depth)) }
	if r.Intn(2) == 0 {
		return []string{"!", "X", "F", "G"}[r.Intn(4)] + kid()
	}
	return "(" + kid() + []string{"&", "|", "->", "U", "R"}[r.Intn(5)] + kid() + ")"
}

func anyModel(r *rand.Rand) string {
	n := 1 + r.Intn(4)
	var lines []string
	for s := range n {
		line := "s" + strconv.Itoa(s) + " " + []string{"-", "a", "b", "ab"}[r.Intn(4)] + " >"
		for _, to := range r.Perm(n)[:1+r.Intn(n)] {
			line += " s" + strconv.Itoa(to)
		}
		lines = append(lines, line)
	}
	return strings.Join(lines, ";")
}

// TestTogether: where it holds a proof is told, and where not a path.
func TestTogether(t *testing.T) { // L2, L4
	r := rand.New(rand.NewSource(1))
	holds, fails := 0, 0
	s := New()
	for range 3000 {
		text, formula := anyModel(r), anyForm(r, 4)
		m, _, _ := model.Parse(strings.ReplaceAll(text, ";", "\n"))
		f := parsed(t, formula)
		if got := s.Line("model " + text); got != strconv.Itoa(len(m.Names)) {
			t.Fatalf("%q: %q", text, got)
		}
		if got := s.Line("show " + formula); got != ltl.Print(f) {
			t.Fatalf("%q is shown %q", formula, got)
		}
		_, always, errno := check.Check(m, f)
		answer, why := s.Line("check "+formula), s.Line("prove "+formula)
		switch {
		case errno != api.OK:
			if answer != "ERR 4" || why != "ERR 4" {
				t.Fatalf("%q in %q: %q, %q", formula, text, answer, why)
			}
		case always:
			holds++
			if answer != "holds" || !proof.Valid(m, f, entriesOf(t, why)) {
				t.Fatalf("%q in %q: %q, %q", formula, text, answer, why)
			}
		default:
			fails++
			trace := s.Line("trace " + answer)
			if why != "open" || s.Line("word "+trace+";"+formula) != "no" || s.Line("word "+trace+";!"+formula) != "yes" {
				t.Fatalf("%q in %q: %q, %q, %q", formula, text, answer, trace, why)
			}
		}
	}
	if holds < 500 || fails < 500 {
		t.Errorf("%d hold, %d do not", holds, fails)
	}
}

func TestSatAndApart(t *testing.T) { // L2
	r := rand.New(rand.NewSource(2))
	s := New()
	counts := map[string]int{}
	for range 3000 {
		first, second := anyForm(r, 3), anyForm(r, 2)
		f, g := parsed(t, first), parsed(t, second)
		_, some, errno := check.Sat(f)
		answer := s.Line("sat " + first)
		switch {
		case errno != api.OK && answer != "ERR 4", errno == api.OK && !some && answer != "never":
			t.Fatalf("sat %s: %q", first, answer)
		case some && s.Line("word "+answer+";"+first) != "yes":
			t.Fatalf("sat %s: %q", first, answer)
		}
		_, differ, errno := check.Apart(f, g)
		answer = s.Line("apart " + first + ";" + second)
		switch {
		case errno != api.OK && answer != "ERR 4", errno == api.OK && !differ && answer != "same":
			t.Fatalf("apart %s;%s: %q", first, second, answer)
		case differ && s.Line("word "+answer+";"+first) == s.Line("word "+answer+";"+second):
			t.Fatalf("apart %s;%s: %q", first, second, answer)
		}
		counts[answer]++
	}
	if counts["same"] < 50 || counts["ERR 4"] < 50 {
		t.Errorf("%d are the same, %d have too many Parts", counts["same"], counts["ERR 4"])
	}
}

func TestWord(t *testing.T) { // L1, L2
	s := New()
	for text, w := range map[string]api.Word{
		"(-)":               {Loop: []int{0}},
		"(a)":               {Loop: []int{1}},
		"(abcdefgh)":        {Loop: []int{255}},
		"a,(b,-)":           {Head: []int{1}, Loop: []int{2, 0}},
		"-,-,(-,-)":         {Head: []int{0, 0}, Loop: []int{0, 0}},
		"ace,bdfh,(h,gh,a)": {Head: []int{1 + 4 + 16, 2 + 8 + 32 + 128}, Loop: []int{128, 192, 1}},
	} {
		for letter := range 8 {
			for _, f := range []string{"", "X", "XX", "G", "F"} {
				f += string(rune('a' + letter))
				want := "no"
				if word.Holds(parsed(t, f), w) {
					want = "yes"
				}
				talk(t, s, [][2]string{{"word " + text + ";" + f, want}, {"word " + text + "; " + f + " ", want}})
			}
		}
	}
	for _, text := range []string{
		"", " ", "a", "a,b", "()", "(", ")", ")(", "(a", "a)", "a(b)", "a,()", ",(a)", "a,,(b)", "(a),", "(a)b", "(a)(b)", "((a))", "(a,)", "(,a)", "(a,,b)", "a, (b)", "(a )", "( a)", " (a)", "(a) ",
		"(ba)", "(aa)", "(i)", "(A)", "(--)", "(-a)", "(a-)", "(1)", "[a]", "(a;b)", "(a)\n", "\xff", "(\xff)", "a,b,(c", "a,b,c)", "(a\x00)", "b,a,(i)", "i,(a)",
	} {
		want := "ERR 2"
		talk(t, s, [][2]string{{"word " + text, want}, {"word " + text + ";;", want}})
		if !strings.Contains(text, ";") {
			talk(t, s, [][2]string{{"word " + text + ";a", want}, {"word " + text + ";i", want}, {"word " + text + ";", want}})
		}
	}
	talk(t, s, [][2]string{{"word (a)", "ERR 2"}, {"word (a);", "ERR 2 0"}, {"word (a);b;", "ERR 2 1"}, {"word (a);i", "ERR 2 0"}, {"word a,(b);X b", "yes"}})
}

// TestLongWords: a good word has at most 20000 letters.
func TestLongWords(t *testing.T) { // L1, L2
	s := New()
	text := func(head, loop int) string {
		return strings.Repeat("a,", head) + "(" + strings.Repeat("a,", loop-1) + "b)"
	}
	s.Line("model s a > s t;t b > s t")
	path := strings.NewReplacer("a", "s", "b", "t")
	for _, c := range []struct {
		head, loop int
		good       bool
	}{
		{0, 20000, true}, {19999, 1, true}, {10000, 10000, true}, {1, 20000, false}, {20000, 1, false}, {0, 20001, false}, {10001, 10000, false}, {20001, 20001, false}, {1 << 20, 1 << 20, false},
	} {
		w := text(c.head, c.loop)
		holds, trace := "yes", w
		if !c.good {
			holds, trace = "ERR 2", "ERR 2"
		}
		talk(t, s, [][2]string{{"word " + w + ";G F b", holds}, {"trace " + path.Replace(w), trace}})
	}
	talk(t, s, [][2]string{{"word (" + strings.Repeat("a", 1<<20) + ");a", "ERR 2"}, {"word (" + strings.Repeat(",", 1<<20) + ");a", "ERR 2"}, {"word " + strings.Repeat("(", 1<<20) + ";a", "ERR 2"}})
}

func TestTrace(t *testing.T) { // L1, L2
	s := New()
	s.Line("model red a > red green;green b > red;a1 abcdefgh > a1 red")
	talk(t, s, [][2]string{
		{"trace (red)", "(a)"}, {"trace red,(red)", "a,(a)"}, {"trace red,green,(red)", "a,b,(a)"}, {"trace (red,green)", "(a,b)"}, {"trace (red,red,green)", "(a,a,b)"},
		{"trace red,(green,red)", "a,(b,a)"}, {"trace red,red,red,(green,red,red)", "a,a,a,(b,a,a)"},
		{"trace", "ERR 2"},
	})
	for _, p := range []string{
		"", "red", "(green)", "red,(green)", "green,(red)", "(red,green,green)", "(a1)", "(red,a1)", "(a1,red)", "(red", "red)", "red(red)", "()", "red,()", ",(red)", "(red,)", "(,red)",
		"(red),", "((red))", "(red )", " (red)", "(red) ", "(0)", "(Red)", "(re)", "(reds)", "(a)", "(-)", "(red;green)", "(red);", "[red]", "(red)(red)", "(red,,red)", "red,,(red)", "\xff", "(red\x00)", "(blue)", "red,blue,(red)",
	} {
		talk(t, s, [][2]string{{"trace " + p, "ERR 2"}})
	}
}

// TestAnyPath: each state has letters of its own, so a trace tells its path.
func TestAnyPath(t *testing.T) { // L1
	r := rand.New(rand.NewSource(3))
	letters := []string{"-", "a", "b", "ab", "c", "ac", "bc", "abc", "d", "ad", "bd", "h"}
	var lines, all []string
	for n := range letters {
		all = append(all, string(rune('n'+n)))
	}
	for n, set := range letters {
		lines = append(lines, all[n]+" "+set+" > "+strings.Join(all, " "))
	}
	s := New()
	talk(t, s, [][2]string{{"model " + strings.Join(lines, ";"), "12"}})
	text := func(head, loop []int, names []string) string {
		var b strings.Builder
		for _, n := range head {
			b.WriteString(names[n] + ",")
		}
		b.WriteString("(" + names[loop[0]])
		for _, n := range loop[1:] {
			b.WriteString("," + names[n])
		}
		return b.String() + ")"
	}
	for range 3000 {
		var numbers []int
		for range 1 + r.Intn(7) {
			numbers = append(numbers, r.Intn(12))
		}
		numbers[0] = 0
		cut := r.Intn(len(numbers))
		head, loop := numbers[:cut], numbers[cut:]
		talk(t, s, [][2]string{{"trace " + text(head, loop, all), text(head, loop, letters)}})
	}
}

// TestAnyBytes: lines near such as have an answer.
func TestAnyBytes(t *testing.T) { // G1, G2, L2
	r := rand.New(rand.NewSource(4))
	lines := []string{light, "check G F a", "prove G(a -> F b)", "sat a U b", "apart F a;G a", "trace red,(green,red)", "word a,(b,-);a U b", "show a R b", "model s - > s"}
	s, last := New(), "show a"
	for range 50000 {
		line := []byte(lines[r.Intn(len(lines))])
		for range r.Intn(4) {
			i := r.Intn(len(line))
			switch r.Intn(3) {
			case 0:
				line[i] = " ;,()-abUGX!>\n\x00\xff"[r.Intn(16)]
			case 1:
				line = slices.Delete(line, i, i+1)
			case 2:
				line = slices.Insert(line, i, " ;,()-abUGX!>\n\x00\xff"[r.Intn(16)])
			}
			if len(line) == 0 {
				break
			}
		}
		answer := s.Line(string(line))
		if answer == "" {
			t.Fatalf("%q is not answered", line)
		}
		if strings.HasPrefix(string(line), "model ") && !strings.HasPrefix(answer, "ERR") {
			last = string(line)
		}
		again := New()
		again.Line(last)
		if got, want := s.Line("check XXb"), again.Line("check XXb"); got != want {
			t.Fatalf("%q: %q, and then the model is not that of %q", line, answer, last)
		}
		if fields := strings.Split(answer, " "); fields[0] == "ERR" && (len(fields) < 2 || len(fields) > 3) {
			t.Fatalf("%q: %q", line, answer)
		}
	}
}

func TestSessionsShareNothing(t *testing.T) { // L2, G3
	s, u := New(), New()
	talk(t, s, [][2]string{{light, "2"}})
	talk(t, u, [][2]string{{"check G F a", "ERR 6"}, {"model s b > s", "1"}, {"check G F a", "(s)"}})
	talk(t, s, [][2]string{{"check G F a", "holds"}})
}

func TestMany(t *testing.T) { // L3
	r := rand.New(rand.NewSource(5))
	var scripts, want [][]string
	for range 60 {
		var script []string
		for range r.Intn(8) {
			script = append(script, []string{
				"model " + anyModel(r), "check " + anyForm(r, 3), "prove " + anyForm(r, 3), "sat " + anyForm(r, 3), "apart " + anyForm(r, 2) + ";" + anyForm(r, 2), "trace (s0)", "word (a,b);" + anyForm(r, 3), "foo",
			}[r.Intn(8)])
		}
		scripts = append(scripts, script)
		s, list := New(), []string{}
		for _, line := range script {
			list = append(list, s.Line(line))
		}
		want = append(want, list)
	}
	before := slices.Clone(scripts)
	for workers := 1; workers <= 16; workers++ {
		for n := 0; n <= len(scripts); n += 20 {
			got, errno := Many(scripts[:n], workers)
			if errno != api.OK || len(got) != n {
				t.Fatalf("%d workers: %d lists, %d", workers, len(got), errno)
			}
			for i, list := range got {
				if !slices.Equal(list, want[i]) {
					t.Fatalf("%d workers: %q is answered %q, want %q", workers, scripts[i], list, want[i])
				}
			}
		}
	}
	if !reflect.DeepEqual(scripts, before) {
		t.Error("the scripts are changed")
	}
	for _, workers := range []int{0, -1, 17, 18, 1 << 40, -1 << 63} {
		if got, errno := Many(scripts, workers); got != nil || errno != api.ErrRange {
			t.Errorf("%d workers: %q, %d", workers, got, errno)
		}
	}
	if got, errno := Many(nil, 0); got != nil || errno != api.ErrRange {
		t.Errorf("no scripts, and no workers: %q, %d", got, errno)
	}
	if got, errno := Many(nil, 16); len(got) != 0 || errno != api.OK {
		t.Errorf("no scripts: %q, %d", got, errno)
	}
}

// TestManyOwn: each script has a session and a list of its own.
func TestManyOwn(t *testing.T) { // L3, G3, G4
	scripts := make([][]string, 200)
	for i := range scripts {
		if i%2 == 0 {
			scripts[i] = append(scripts[i], "model s a > s")
		}
		scripts[i] = append(scripts[i], "check a")
	}
	got, _ := Many(scripts, 4)
	for i, list := range got {
		want := []string{"1", "holds"}
		if i%2 == 1 {
			want = []string{"ERR 6"}
		}
		if !slices.Equal(list, want) {
			t.Fatalf("%q: %q", scripts[i], list)
		}
	}
	for i := range got {
		for k := range got[i][:cap(got[i])] {
			got[i][k] = strconv.Itoa(i)
		}
	}
	for i := range got {
		if got[i][0] != strconv.Itoa(i) {
			t.Fatal("two lists share memory")
		}
	}
	if scripts[1][0] != "check a" {
		t.Error("a script is changed")
	}
}

// TestNothingGoesOn: when Many has answered, its goroutines have ended.
func TestNothingGoesOn(t *testing.T) { // L3, G4
	before := runtime.NumGoroutine()
	for range 200 {
		Many([][]string{{"sat F a"}, {"sat G a"}}, 16)
	}
	// One that has told that it is done may need a moment until it is gone.
	for range 100 {
		if runtime.NumGoroutine() <= before {
			return
		}
		time.Sleep(time.Millisecond)
	}
	t.Errorf("%d goroutines go on", runtime.NumGoroutine()-before)
}
