package model

import (
	"math/rand"
	"reflect"
	"slices"
	"strconv"
	"strings"
	"testing"

	"vigil/api"
)

func TestParse(t *testing.T) { // E1, E2
	for s, want := range map[string]api.Model{
		"s a > s":                  {Names: []string{"s"}, Letters: []int{1}, To: [][]int{{0}}},
		"s - > s":                  {Names: []string{"s"}, Letters: []int{0}, To: [][]int{{0}}},
		"s abcdefgh > s":           {Names: []string{"s"}, Letters: []int{255}, To: [][]int{{0}}},
		"s bdh > s":                {Names: []string{"s"}, Letters: []int{2 + 8 + 128}, To: [][]int{{0}}},
		"  s   a   >   s  ":        {Names: []string{"s"}, Letters: []int{1}, To: [][]int{{0}}},
		"\n\n   \ns a > s\n\n  \n": {Names: []string{"s"}, Letters: []int{1}, To: [][]int{{0}}},
		"red a > red g\ng b > red": {Names: []string{"red", "g"}, Letters: []int{1, 2}, To: [][]int{{0, 1}, {0}}},
		"g b > red\nred a > red g": {Names: []string{"g", "red"}, Letters: []int{2, 1}, To: [][]int{{1}, {1, 0}}},
		"a a > b\nb b > a\n":       {Names: []string{"a", "b"}, Letters: []int{1, 2}, To: [][]int{{1}, {0}}},
		"0 a > 9z\n9z - > 0 9z":    {Names: []string{"0", "9z"}, Letters: []int{1, 0}, To: [][]int{{1}, {0, 1}}},
		"abcdef a > zzzzzz\n012345 - > abcdef\nzzzzzz c > 012345 zzzzzz abcdef": {
			Names: []string{"abcdef", "012345", "zzzzzz"}, Letters: []int{1, 0, 4}, To: [][]int{{2}, {0}, {1, 2, 0}}},
	} {
		m, errno, line := Parse(s)
		if errno != api.OK || line != 0 || !reflect.DeepEqual(m, want) {
			t.Errorf("%q: %v, %d, %d", s, m, errno, line)
		}
	}
}

// states are that many lines, each with itself behind it.
func states(n int) string {
	var b strings.Builder
	for i := range n {
		s := "s" + strconv.Itoa(i)
		b.WriteString(s + " - > " + s + "\n")
	}
	return b.String()
}

func TestParseErrors(t *testing.T) { // E1, E2
	for _, c := range []struct {
		s     string
		errno api.Errno
		line  int
	}{
		{"", api.ErrNone, 0},
		{" \n\n  ", api.ErrNone, 0},
		{"s", api.ErrForm, 1},
		{"s a", api.ErrForm, 1},
		{"s a >", api.ErrForm, 1},
		{"s a > ", api.ErrForm, 1},
		{"> s", api.ErrForm, 1},
		{"s > s", api.ErrForm, 1},
		{"s a s", api.ErrForm, 1},
		{"s a s s", api.ErrForm, 1},
		{"s a > > s", api.ErrForm, 1},
		{"s a > s >", api.ErrForm, 1},
		{"s a >s", api.ErrForm, 1},
		{"s a> s", api.ErrForm, 1},
		{"s a >> s", api.ErrForm, 1},
		{"s a b > s", api.ErrForm, 1},
		{"s a\t> s", api.ErrForm, 1},
		{"s a > s\r\n", api.ErrForm, 1},
		{"s a > s\x00", api.ErrForm, 1},
		{"s a > s\xff", api.ErrForm, 1},
		{"\u00a0s a > s", api.ErrForm, 1},
		{"s\u00e4 a > s", api.ErrForm, 1},
		{"S a > S", api.ErrForm, 1},
		{"s_ a > s_", api.ErrForm, 1},
		{"- a > -", api.ErrForm, 1},
		{"/ a > /", api.ErrForm, 1},
		{": a > :", api.ErrForm, 1},
		{"` a > `", api.ErrForm, 1},
		{"{ a > {", api.ErrForm, 1},
		{"abcdefg a > abcdefg", api.ErrForm, 1},
		{"s a > abcdefg", api.ErrForm, 1},
		{"s -- > s", api.ErrForm, 1},
		{"s -a > s", api.ErrForm, 1},
		{"s a- > s", api.ErrForm, 1},
		{"s ba > s", api.ErrForm, 1},
		{"s aa > s", api.ErrForm, 1},
		{"s aba > s", api.ErrForm, 1},
		{"s i > s", api.ErrForm, 1},
		{"s A > s", api.ErrForm, 1},
		{"s ` > s", api.ErrForm, 1},
		{"s 1 > s", api.ErrForm, 1},
		{"s abcdefgha > s", api.ErrForm, 1},
		{"s a > s\n\nt b", api.ErrForm, 3},
		{"\n\n s a > s > t", api.ErrForm, 3},

		{"s a > s\ns b > s", api.ErrTwice, 2},
		{"s a > t\nt a > s\n\nt a > s", api.ErrTwice, 4},
		{"s a > s s", api.ErrTwice, 1},
		{"s a > t s t\nt a > t", api.ErrTwice, 1},
		{"s a > none none", api.ErrTwice, 1},
		{states(12) + "z - > z", api.ErrMany, 13},
		{"\n" + states(12) + "\nz - > s1", api.ErrMany, 15},
		{states(12) + "s0 - > z", api.ErrTwice, 13},
		{states(12) + "z - > z z", api.ErrTwice, 13},
		{states(12) + "z a", api.ErrForm, 13},
		{states(12) + "z - > s\nz", api.ErrMany, 13},
		{states(13) + "s0 - > s0", api.ErrMany, 13},

		{"s a > s t", api.ErrNone, 1},
		{"s a > t\nt a > u\nu a > v", api.ErrNone, 3},
		{"\ns a > s\n\nt a > u v\nx a > y", api.ErrNone, 4},
		{"s a > none\ns b > s", api.ErrTwice, 2},
		{"s a > none\nt", api.ErrForm, 2},
		{"s a > none\nt a > t t", api.ErrTwice, 2},
		{"s a > none\n" + states(12), api.ErrMany, 13},
		{"s a > s\nt", api.ErrForm, 2},
		{"s a > s s\nt", api.ErrTwice, 1},

		{strings.Repeat(" ", 1001), api.ErrLong, 0},
		{strings.Repeat("x", 1001), api.ErrLong, 0},
		{"s a > s" + strings.Repeat("\n", 994), api.ErrLong, 0},
		{strings.Repeat(" ", 1000), api.ErrNone, 0},
		{strings.Repeat("x", 1000), api.ErrForm, 1},
		{strings.Repeat("\n", 999) + "x", api.ErrForm, 1000},
		{strings.Repeat("\xff", 1<<20), api.ErrLong, 0},
	} {
		m, errno, line := Parse(c.s)
		if errno != c.errno || line != c.line || !reflect.DeepEqual(m, api.Model{}) {
			t.Errorf("%q: %v, %d, %d, want %d, %d", c.s, m, errno, line, c.errno, c.line)
		}
	}
	for _, s := range []string{states(12), "s a > s" + strings.Repeat("\n", 993), strings.Repeat(" ", 993) + "s a > s"} {
		if m, errno, line := Parse(s); errno != api.OK || line != 0 || !Good(m) {
			t.Errorf("%q: %v, %d, %d", s, m, errno, line)
		}
	}
}

func TestParseOfAnyBytes(t *testing.T) { // E2, G1, G2
	r := rand.New(rand.NewSource(1))
	names, others := []string{"s", "t", "u"}, []string{"a", "ab", "-", ">", "", "\n", "ba", "s>", "\xff", "abcdefg"}
	good := 0
	for range 200000 {
		var words []string
		for range 1 + r.Intn(3) {
			words = append(words, names[r.Intn(3)], "ab", ">", names[r.Intn(3)])
			if r.Intn(2) == 0 {
				words = append(words, names[r.Intn(3)])
			}
			words = append(words, "\n")
		}
		if r.Intn(2) == 0 {
			words[r.Intn(len(words))] = others[r.Intn(len(others))]
		}
		s := strings.Join(words, " ")
		m, errno, line := Parse(s)
		if errno == api.OK {
			good++
			again, errno, _ := Parse(Print(m))
			if line != 0 || !Good(m) || errno != api.OK || !reflect.DeepEqual(m, again) {
				t.Fatalf("%q: %v", s, m)
			}
			continue
		}
		if !reflect.DeepEqual(m, api.Model{}) || line < 0 || line > strings.Count(s, "\n")+1 || (line == 0) != (errno == api.ErrNone && strings.Trim(s, " \n") == "") {
			t.Fatalf("%q: %v, %d, %d", s, m, errno, line)
		}
	}
	if good < 10000 {
		t.Errorf("only %d models", good)
	}
}

// anyModel is a good one.
func anyModel(r *rand.Rand) api.Model {
	var m api.Model
	n := 1 + r.Intn(5)
	for i := range n {
		m.Names = append(m.Names, string(rune('p'+i))+strings.Repeat("x", r.Intn(6)))
		m.Letters = append(m.Letters, r.Intn(256))
		m.To = append(m.To, r.Perm(n)[:1+r.Intn(n)])
	}
	return m
}

func copied(m api.Model) api.Model {
	c := api.Model{Names: slices.Clone(m.Names), Letters: slices.Clone(m.Letters), To: slices.Clone(m.To)}
	for s, to := range m.To {
		c.To[s] = slices.Clone(to)
	}
	return c
}

func TestPrint(t *testing.T) { // E3
	m := api.Model{Names: []string{"red", "g2"}, Letters: []int{255, 0}, To: [][]int{{1, 0}, {0}}}
	if got, want := Print(m), "red abcdefgh > g2 red\ng2 - > red\n"; got != want {
		t.Errorf("%q, want %q", got, want)
	}
	m, _, _ = Parse("\n  s   ace > t  s\n\n t - > s ")
	if got, want := Print(m), "s ace > t s\nt - > s\n"; got != want {
		t.Errorf("%q, want %q", got, want)
	}
	r := rand.New(rand.NewSource(2))
	for range 5000 {
		m := anyModel(r)
		before := copied(m)
		s := Print(m)
		again, errno, _ := Parse(s)
		if !Good(m) || errno != api.OK || !reflect.DeepEqual(m, again) || !reflect.DeepEqual(m, before) {
			t.Fatalf("%v is written %q", m, s)
		}
		if strings.Contains(s, "  ") || strings.Contains(s, " \n") || strings.Count(s, "\n") != len(m.Names) {
			t.Fatalf("%q", s)
		}
	}
}

// wrongModels are not good, for one reason each.
func wrongModels() map[string]api.Model {
	long := make([]int, 1<<20)
	thirteen, _, _ := Parse(states(12))
	thirteen = api.Model{Names: append(thirteen.Names, "z"), Letters: append(thirteen.Letters, 0), To: append(thirteen.To, []int{0})}
	return map[string]api.Model{
		"nothing":               {},
		"empty lists":           {Names: []string{}, Letters: []int{}, To: [][]int{}},
		"13 states":             thirteen,
		"too few letters":       {Names: []string{"s", "t"}, Letters: []int{0}, To: [][]int{{0}, {0}}},
		"too many letters":      {Names: []string{"s"}, Letters: []int{0, 0}, To: [][]int{{0}}},
		"too few To":            {Names: []string{"s", "t"}, Letters: []int{0, 0}, To: [][]int{{0}}},
		"too many To":           {Names: []string{"s"}, Letters: []int{0}, To: [][]int{{0}, {0}}},
		"no name":               {Names: []string{""}, Letters: []int{0}, To: [][]int{{0}}},
		"a long name":           {Names: []string{"abcdefg"}, Letters: []int{0}, To: [][]int{{0}}},
		"a very long name":      {Names: []string{strings.Repeat("a", 1<<20)}, Letters: []int{0}, To: [][]int{{0}}},
		"a great letter":        {Names: []string{"S"}, Letters: []int{0}, To: [][]int{{0}}},
		"a blank":               {Names: []string{"s t"}, Letters: []int{0}, To: [][]int{{0}}},
		"a line's end":          {Names: []string{"s\n"}, Letters: []int{0}, To: [][]int{{0}}},
		"another byte":          {Names: []string{"\xff"}, Letters: []int{0}, To: [][]int{{0}}},
		"a name twice":          {Names: []string{"s", "t", "s"}, Letters: []int{0, 0, 0}, To: [][]int{{0}, {0}, {0}}},
		"letters below":         {Names: []string{"s"}, Letters: []int{-1}, To: [][]int{{0}}},
		"letters above":         {Names: []string{"s"}, Letters: []int{256}, To: [][]int{{0}}},
		"letters of the second": {Names: []string{"s", "t"}, Letters: []int{0, 1 << 40}, To: [][]int{{0}, {0}}},
		"nothing behind":        {Names: []string{"s"}, Letters: []int{0}, To: [][]int{{}}},
		"nothing behind one":    {Names: []string{"s", "t"}, Letters: []int{0, 0}, To: [][]int{{1}, nil}},
		"no state behind":       {Names: []string{"s"}, Letters: []int{0}, To: [][]int{{1}}},
		"one below":             {Names: []string{"s"}, Letters: []int{0}, To: [][]int{{-1}}},
		"far off":               {Names: []string{"s"}, Letters: []int{0}, To: [][]int{{-1 << 63}}},
		"twice behind":          {Names: []string{"s", "t", "u"}, Letters: []int{0, 0, 0}, To: [][]int{{0, 1, 0}, {0}, {0}}},
		"many behind":           {Names: []string{"s"}, Letters: []int{0}, To: [][]int{long}},
	}
}

func TestWrongModels(t *testing.T) { // E3, E4
	for name, m := range wrongModels() {
		before := copied(m)
		if Good(m) || Print(m) != "" {
			t.Errorf("%s: is good, or has the text %q", name, Print(m))
		}
		w := api.Word{Loop: []int{0}}
		if Path(m, w) || !reflect.DeepEqual(Trace(m, w), api.Word{}) {
			t.Errorf("%s: has a path", name)
		}
		if !reflect.DeepEqual(m, before) {
			t.Errorf("%s: changed", name)
		}
	}
}

// fullModel is of 12 states with long names, and that many behind them in all.
func fullModel(behind int) api.Model {
	var m api.Model
	for i := range 12 {
		m.Names = append(m.Names, "abcde"+string(rune('a'+i)))
		m.Letters = append(m.Letters, 0)
		n := min(max(behind, 1), 12)
		behind -= n
		var to []int
		for k := range n {
			to = append(to, k)
		}
		m.To = append(m.To, to)
	}
	return m
}

// TestGoodAtTheBound: a text of 1000 bytes is read, and needs no byte 10 at its
// end; so Print may write 1001.
func TestGoodAtTheBound(t *testing.T) { // E2, E3
	// A state is 11 bytes with its line's end, and 7 for each behind it.
	for behind := 12; behind <= 124; behind++ {
		m := fullModel(behind)
		bytes := 12 * 11
		for _, to := range m.To {
			bytes += 7 * len(to)
		}
		for letters := range 9 {
			m.Letters[0] = 1<<letters - 1
			size := bytes + max(letters, 1) - 1
			want := size-1 <= 1000
			if Good(m) != want {
				t.Fatalf("%d bytes: good is %v", size, Good(m))
			}
			s := Print(m)
			if want && len(s) != size || !want && s != "" {
				t.Fatalf("%d bytes: Print writes %d", size, len(s))
			}
			if !want {
				continue
			}
			if again, errno, _ := Parse(s[:size-1]); errno != api.OK || !reflect.DeepEqual(m, again) {
				t.Fatalf("%d bytes are not read: %d", size, errno)
			}
		}
	}
}

// pathByWords is E4 by its words.
func pathByWords(m api.Model, w api.Word) bool {
	all := slices.Concat(w.Head, w.Loop)
	if len(w.Loop) == 0 || len(all) > 20000 {
		return false
	}
	for _, s := range all {
		if s < 0 || s >= len(m.Names) {
			return false
		}
	}
	all = append(all, w.Loop[0])
	for i := 1; i < len(all); i++ {
		if !slices.Contains(m.To[all[i-1]], all[i]) {
			return false
		}
	}
	return all[0] == 0
}

func TestPathOfAny(t *testing.T) { // E4
	r := rand.New(rand.NewSource(3))
	paths := 0
	for range 100000 {
		m := anyModel(r)
		number := func() int { return r.Intn(len(m.Names)+1) - r.Intn(20)/19 }
		w := api.Word{}
		s := 0
		step := func() int {
			was := s
			s = m.To[s][r.Intn(len(m.To[s]))]
			if r.Intn(20) == 0 {
				return number()
			}
			return was
		}
		for range r.Intn(3) {
			w.Head = append(w.Head, step())
		}
		for range r.Intn(4) {
			w.Loop = append(w.Loop, step())
		}
		before, word := copied(m), api.Word{Head: slices.Clone(w.Head), Loop: slices.Clone(w.Loop)}
		want := pathByWords(m, w)
		if got := Path(m, w); got != want {
			t.Fatalf("%v of %v: %v", w, m, got)
		}
		trace := Trace(m, w)
		if !reflect.DeepEqual(m, before) || !reflect.DeepEqual(w, word) {
			t.Fatalf("%v of %v: changed", w, m)
		}
		if !want {
			if !reflect.DeepEqual(trace, api.Word{}) {
				t.Fatalf("%v of %v: the trace %v", w, m, trace)
			}
			continue
		}
		paths++
		if len(trace.Head) != len(w.Head) || len(trace.Loop) != len(w.Loop) {
			t.Fatalf("%v of %v: the trace %v", w, m, trace)
		}
		for i, s := range slices.Concat(w.Head, w.Loop) {
			if slices.Concat(trace.Head, trace.Loop)[i] != m.Letters[s] {
				t.Fatalf("%v of %v: the trace %v", w, m, trace)
			}
		}
	}
	if paths < 10000 || paths > 90000 {
		t.Errorf("%d of 100000 are paths", paths)
	}
}

func TestPath(t *testing.T) { // E4
	m, errno, _ := Parse("s a > t\nt b > s t u\nu abcdefgh > u")
	if errno != api.OK {
		t.Fatal(errno)
	}
	for name, c := range map[string]struct {
		w    api.Word
		want api.Word
	}{
		"round":                   {api.Word{Loop: []int{0, 1}}, api.Word{Loop: []int{1, 2}}},
		"behind a Head":           {api.Word{Head: []int{0, 1}, Loop: []int{2}}, api.Word{Head: []int{1, 2}, Loop: []int{255}}},
		"stays":                   {api.Word{Head: []int{0}, Loop: []int{1, 1, 1}}, api.Word{Head: []int{1}, Loop: []int{2, 2, 2}}},
		"begins elsewhere":        {api.Word{Loop: []int{1, 0}}, api.Word{}},
		"a Head that begins so":   {api.Word{Head: []int{1}, Loop: []int{0, 1}}, api.Word{}},
		"no step in Head":         {api.Word{Head: []int{0, 2}, Loop: []int{2}}, api.Word{}},
		"no step to Loop":         {api.Word{Head: []int{0}, Loop: []int{2}}, api.Word{}},
		"no step in Loop":         {api.Word{Head: []int{0, 1}, Loop: []int{2, 1}}, api.Word{}},
		"no step back":            {api.Word{Loop: []int{0, 1, 2}}, api.Word{}},
		"a Loop of one":           {api.Word{Loop: []int{0}}, api.Word{}},
		"no Loop":                 {api.Word{Head: []int{0, 1}}, api.Word{}},
		"nothing":                 {api.Word{}, api.Word{}},
		"no state":                {api.Word{Head: []int{0, 1}, Loop: []int{3}}, api.Word{}},
		"below 0":                 {api.Word{Head: []int{0, 1}, Loop: []int{-1}}, api.Word{}},
		"far off":                 {api.Word{Head: []int{0, 1 << 40}, Loop: []int{-1 << 63}}, api.Word{}},
		"a letter, and no number": {api.Word{Head: []int{0, 1}, Loop: []int{255}}, api.Word{}},
	} {
		if got := Trace(m, c.w); !reflect.DeepEqual(got, c.want) {
			t.Errorf("%s: the trace %v", name, got)
		}
		if got := Path(m, c.w); got != (len(c.want.Loop) > 0) {
			t.Errorf("%s: %v", name, got)
		}
	}
}

func TestLongPaths(t *testing.T) { // E4: as long as words are
	m, _, _ := Parse("s h > s")
	for name, c := range map[string]struct {
		head, loop int
		want       bool
	}{
		"the longest Loop": {0, 20000, true}, "the longest Head": {19999, 1, true}, "half": {10000, 10000, true},
		"a long Loop": {0, 20001, false}, "a long Head": {20000, 1, false}, "a very long one": {1 << 20, 1 << 20, false},
	} {
		w := api.Word{Head: make([]int, c.head), Loop: make([]int, c.loop)}
		trace := Trace(m, w)
		if Path(m, w) != c.want || (len(trace.Loop) > 0) != c.want {
			t.Errorf("%s: %v", name, Path(m, w))
		}
		if c.want && (len(trace.Head) != c.head || trace.Loop[c.loop-1] != 128) {
			t.Errorf("%s: the trace", name)
		}
	}
}

func TestNewMemory(t *testing.T) { // G4
	s := "s a > s t\nt b > t s"
	m, _, _ := Parse(s)
	w := api.Word{Head: []int{0}, Loop: []int{0, 1}}
	trace := Trace(m, w)
	again, _, _ := Parse(s)
	for i, l := range [][]int{m.Letters, m.To[0], m.To[1], trace.Head, trace.Loop, w.Head, w.Loop} {
		l = l[:cap(l)]
		for k := range l {
			l[k] = 1000 + i
		}
	}
	for i, l := range [][]int{m.Letters, m.To[0], m.To[1], trace.Head, trace.Loop, w.Head, w.Loop} {
		if slices.ContainsFunc(l, func(x int) bool { return x != 1000+i }) {
			t.Errorf("list %d shares its memory", i)
		}
	}
	if third, _, _ := Parse(s); !reflect.DeepEqual(again, third) {
		t.Error("two answers share memory")
	}
}
