package find

import (
	"math/rand"
	"reflect"
	"slices"
	"strconv"
	"testing"

	"vigil/api"
	"vigil/auto"
	"vigil/model"
	"vigil/word"
)

const light = "red a > red green\ngreen b > amber\namber - > red\n"

func load(t *testing.T, s string) api.Model {
	t.Helper()
	m, errno, line := model.Parse(s)
	if errno != api.OK {
		t.Fatalf("%q: %d, %d", s, errno, line)
	}
	return m
}

// reads is D1 by its words.
func reads(s api.State, x int) bool { return x&s.Must == s.Must && x&s.Not == 0 }

// spot is a State beside a model's state.
type spot struct{ place, state int }

// closure tells of each of n whether one or more steps lead to another.
func closure(n int, step func(i, k int) bool) [][]bool {
	behind := make([][]bool, n)
	for i := range n {
		behind[i] = make([]bool, n)
		for k := range n {
			behind[i][k] = step(i, k)
		}
	}
	for mid := range n {
		for i := range n {
			for k := range n {
				behind[i][k] = behind[i][k] || behind[i][mid] && behind[mid][k]
			}
		}
	}
	return behind
}

// someByWords is whether there is an accepted run on a trace: where spots lead to
// each other for ever, a run can have all of them endlessly often.
func someByWords(m api.Model, a api.Auto) bool {
	var spots []spot
	for p := range m.To {
		for s := range a.States {
			if reads(a.States[s], m.Letters[p]) {
				spots = append(spots, spot{p, s})
			}
		}
	}
	behind := closure(len(spots), func(i, k int) bool {
		from, to := spots[i], spots[k]
		return slices.Contains(m.To[from.place], to.place) && slices.Contains(a.States[from.state].To, to.state)
	})
	for i := range spots {
		begun := false
		for k, n := range spots {
			begun = begun || n.place == 0 && slices.Contains(a.First, n.state) && (i == k || behind[k][i])
		}
		met := 0
		for _, goal := range a.Goals {
			for k, n := range spots {
				if slices.Contains(goal, n.state) && behind[i][k] && behind[k][i] {
					met++
					break
				}
			}
		}
		if begun && behind[i][i] && met == len(a.Goals) {
			return true
		}
	}
	return false
}

func anyModel(r *rand.Rand) api.Model {
	n := 1 + r.Intn(4)
	var m api.Model
	for s := range n {
		m.Names = append(m.Names, "s"+strconv.Itoa(s))
		m.Letters = append(m.Letters, r.Intn(4))
		m.To = append(m.To, r.Perm(n)[:1+r.Intn(n)])
	}
	return m
}

func numbers(r *rand.Rand, n, below int) []int {
	var l []int
	for range n {
		l = append(l, r.Intn(below))
	}
	return l
}

// strange puts in numbers that are no State's.
func strange(r *rand.Rand, l []int, n int) []int {
	if r.Intn(4) > 0 {
		return l
	}
	return append(l, []int{-1, n, n + 7, 1 << 40, -1 << 63, 1<<63 - 1}[r.Intn(6)])
}

func anyState(r *rand.Rand) api.State {
	s := api.State{Must: r.Intn(4) & r.Intn(4) & r.Intn(4), Not: r.Intn(4) & r.Intn(4) & r.Intn(4)}
	switch r.Intn(20) {
	case 0:
		s.Must |= []int{256, -1, 1 << 40, -1 << 63, 128}[r.Intn(5)]
	case 1:
		s.Not |= []int{256, -1, -256, 1 << 40, -1 << 63, 252}[r.Intn(6)]
	}
	return s
}

func anyAuto(r *rand.Rand) api.Auto {
	var a api.Auto
	n := r.Intn(6)
	list := func(most int) []int {
		if n == 0 {
			return strange(r, nil, n)
		}
		return strange(r, numbers(r, r.Intn(most+1), n), n)
	}
	for range n {
		s := anyState(r)
		s.To = list(5)
		a.States = append(a.States, s)
	}
	a.First = list(4)
	for range r.Intn(4) {
		a.Goals = append(a.Goals, list(5))
	}
	return a
}

func copiedModel(m api.Model) api.Model {
	c := api.Model{Names: slices.Clone(m.Names), Letters: slices.Clone(m.Letters)}
	for _, to := range m.To {
		c.To = append(c.To, slices.Clone(to))
	}
	return c
}

func copiedAuto(a api.Auto) api.Auto {
	b := api.Auto{First: slices.Clone(a.First)}
	for _, s := range a.States {
		s.To = slices.Clone(s.To)
		b.States = append(b.States, s)
	}
	for _, g := range a.Goals {
		b.Goals = append(b.Goals, slices.Clone(g))
	}
	return b
}

// finds fails where Find does not answer a path, or none, as it should.
func finds(t *testing.T, m api.Model, a api.Auto, want bool) api.Word {
	t.Helper()
	w, ok, errno := Find(m, a)
	switch {
	case errno != api.OK || ok != want:
		t.Fatalf("%+v beside %+v: %v, %d, want %v", a, m, ok, errno, want)
	case !ok && !reflect.DeepEqual(w, api.Word{}):
		t.Fatalf("%+v beside %+v: %v, but no path", a, m, w)
	case ok && !model.Path(m, w):
		t.Fatalf("%+v beside %+v: %v is no path", a, m, w)
	case ok && !auto.Accepts(a, model.Trace(m, w)):
		t.Fatalf("%+v beside %+v: %v is not accepted", a, m, w)
	}
	return w
}

func TestFind(t *testing.T) { // H1
	m := load(t, light)
	round := []api.State{{Must: 1, To: []int{0, 1}}, {Must: 2, To: []int{2}}, {Not: 3, To: []int{0}}}
	for name, c := range map[string]struct {
		a    api.Auto
		want bool
	}{
		"all the lights":               {api.Auto{States: round, First: []int{0}, Goals: [][]int{{1}, {0}}}, true},
		"no Goals":                     {api.Auto{States: round, First: []int{0}}, true},
		"a Goal of what is none":       {api.Auto{States: round, First: []int{0}, Goals: [][]int{{1}, {7}}}, false},
		"an empty Goal":                {api.Auto{States: round, First: []int{0}, Goals: [][]int{nil}}, false},
		"begins with what is not read": {api.Auto{States: round, First: []int{1, 2}}, false},
		"one of First":                 {api.Auto{States: round, First: []int{2, 1, 0}, Goals: [][]int{{2}}}, true},
		"no First":                     {api.Auto{States: round}, false},
		"a First that is none":         {api.Auto{States: round, First: []int{3, -1}}, false},
		"nothing":                      {api.Auto{}, false},
		"red twice, and then amber":    {api.Auto{States: []api.State{{Must: 1, To: []int{1}}, {Must: 1, To: []int{2}}, {Not: 3, To: []int{2}}}, First: []int{0}}, false},
		"ends":                         {api.Auto{States: []api.State{{Must: 1, To: []int{1}}, {To: []int{2}}, {}}, First: []int{0}}, false},
		"two Goals, never both":        {api.Auto{States: []api.State{{To: []int{0, 1}}, {To: []int{1}}}, First: []int{0}, Goals: [][]int{{0}, {1}}}, false},
		"green at last, and no more":   {api.Auto{States: []api.State{{To: []int{0, 1}}, {Must: 2, To: []int{2}}, {Not: 2, To: []int{2}}}, First: []int{0}, Goals: [][]int{{2}}}, true},
		"for ever green":               {api.Auto{States: []api.State{{To: []int{0, 1}}, {Must: 2, To: []int{1}}}, First: []int{0}, Goals: [][]int{{1}}}, false},
		"only where the model is not":  {api.Auto{States: []api.State{{Must: 4, To: []int{0}}}, First: []int{0}}, false},
		"a Must that nothing has":      {api.Auto{States: []api.State{{Must: 257, To: []int{0}}}, First: []int{0}}, false},
		"a Not that nothing has":       {api.Auto{States: []api.State{{Not: -256, To: []int{0}}}, First: []int{0}}, true},
	} {
		t.Run(name, func(t *testing.T) { finds(t, m, c.a, c.want) })
	}
}

func TestFindOfAny(t *testing.T) { // H1, G4
	r := rand.New(rand.NewSource(1))
	yes := 0
	for range 20000 {
		m, a := anyModel(r), anyAuto(r)
		model, automaton := copiedModel(m), copiedAuto(a)
		want := someByWords(m, a)
		finds(t, m, a, want)
		if !reflect.DeepEqual(m, model) || !reflect.DeepEqual(a, automaton) {
			t.Fatalf("%+v beside %+v: changed", automaton, model)
		}
		if want {
			yes++
		}
	}
	if yes < 2000 || yes > 18000 {
		t.Errorf("%d of 20000 have a path", yes)
	}
}

// TestFindIsShort: what need not be told is not.
func TestFindIsShort(t *testing.T) {
	all := api.Auto{States: []api.State{{To: []int{0}}}, First: []int{0}}
	if w := finds(t, load(t, light), all, true); len(w.Head) != 0 || !slices.Equal(w.Loop, []int{0}) {
		t.Errorf("%v", w)
	}
	all.Goals = [][]int{{0}, {0}}
	if w := finds(t, load(t, "s a > t\nt b > t s"), all, true); len(w.Head)+len(w.Loop) != 2 {
		t.Errorf("%v", w)
	}
}

// ringModel goes round n states, of which the first one alone has the letter a.
func ringModel(n int) api.Model {
	var m api.Model
	for s := range n {
		m.Names = append(m.Names, "s"+strconv.Itoa(s))
		m.Letters = append(m.Letters, 0)
		m.To = append(m.To, []int{(s + 1) % n})
	}
	m.Letters[0] = 1
	return m
}

// TestFindLong: the model goes round six states, and may go to one of six others
// behind the last of these; the automaton goes along a line, and reads those six
// others at its end alone. Both meet there only if they have gone round often.
func TestFindLong(t *testing.T) { // H1: within the limits some path is no longer than words may be
	const line, ring = 192, 6
	m := ringModel(2 * ring)
	a := api.Auto{First: []int{0}}
	for s := range line {
		a.States = append(a.States, api.State{Not: 63, To: []int{s + 1}})
	}
	a.States = append(a.States, api.State{Not: 63, To: []int{0}})
	m.Letters[0] = 0
	m.To[ring-1] = []int{0}
	for g := range 6 {
		m.Letters[ring+g] = 1 << g
		m.To[ring+g] = []int{0}
		m.To[ring-1] = append(m.To[ring-1], ring+g)
		n := len(a.States)
		a.States = append(a.States, api.State{Must: 1 << g, To: []int{ring - 1}})
		a.States[line-1].To = append(a.States[line-1].To, n)
		a.Goals = append(a.Goals, []int{n})
	}
	w := finds(t, m, a, true)
	if n := len(w.Head) + len(w.Loop); n < 6000 || n > 20000 {
		t.Errorf("%d numbers", n)
	}
	a.States[len(a.States)-1].To = nil
	finds(t, m, a, false)
}

// denseModel has 12 states, all of them behind each.
func denseModel(r *rand.Rand) api.Model {
	var m api.Model
	for s := range 12 {
		m.Names = append(m.Names, string(rune('a'+s)))
		m.Letters = append(m.Letters, r.Intn(256))
		m.To = append(m.To, r.Perm(12))
	}
	return m
}

func TestFindDense(t *testing.T) { // H1, at its limits
	r := rand.New(rand.NewSource(2))
	m := denseModel(r)
	a := api.Auto{First: r.Perm(200)}
	for range 200 {
		a.States = append(a.States, api.State{Must: 1 << r.Intn(8) & r.Intn(256), To: r.Perm(200)})
	}
	for g := range 6 {
		a.States[g] = api.State{To: a.States[g].To}
		a.Goals = append(a.Goals, []int{g})
	}
	finds(t, m, a, true)
	a.States[5].Must = 256
	finds(t, m, a, false)
}

func TestFindLongLists(t *testing.T) { // H1, G1: lists of any length
	const many = 1 << 20
	a := api.Auto{States: []api.State{{To: make([]int, many)}, {To: slices.Repeat([]int{-1, 5}, many)}}, First: make([]int, many)}
	for range 6 {
		a.Goals = append(a.Goals, make([]int, many))
	}
	finds(t, load(t, light), a, true)
	a.Goals[5] = slices.Repeat([]int{1}, many)
	finds(t, load(t, light), a, false)
}

// wrongModels are not good, for one reason each.
func wrongModels() map[string]api.Model {
	thirteen := ringModel(13)
	long := denseModel(rand.New(rand.NewSource(3)))
	for i := range long.Names {
		long.Names[i] = "long" + strconv.Itoa(10+i)
	}
	return map[string]api.Model{
		"nothing":             {},
		"no state behind":     {Names: []string{"s"}, Letters: []int{0}, To: [][]int{{}}},
		"behind is none":      {Names: []string{"s"}, Letters: []int{0}, To: [][]int{{1}}},
		"behind is below 0":   {Names: []string{"s"}, Letters: []int{0}, To: [][]int{{-1}}},
		"behind twice":        {Names: []string{"s"}, Letters: []int{0}, To: [][]int{{0, 0}}},
		"no name":             {Names: []string{""}, Letters: []int{0}, To: [][]int{{0}}},
		"a long name":         {Names: []string{"sssssss"}, Letters: []int{0}, To: [][]int{{0}}},
		"a name twice":        {Names: []string{"s", "s"}, Letters: []int{0, 0}, To: [][]int{{0}, {1}}},
		"letters above h":     {Names: []string{"s"}, Letters: []int{256}, To: [][]int{{0}}},
		"letters below 0":     {Names: []string{"s"}, Letters: []int{-1}, To: [][]int{{0}}},
		"too few letters":     {Names: []string{"s", "t"}, Letters: []int{0}, To: [][]int{{0}, {0}}},
		"too few To":          {Names: []string{"s", "t"}, Letters: []int{0, 0}, To: [][]int{{0}}},
		"too many To":         {Names: []string{"s"}, Letters: []int{0}, To: [][]int{{0}, {0}}},
		"13 states":           thirteen,
		"a text that is long": long,
	}
}

func TestErrors(t *testing.T) { // H1, H2, G2
	all := api.Auto{States: []api.State{{To: []int{0}}}, First: []int{0}}
	states := api.Auto{States: slices.Repeat(all.States, 201), First: []int{0}}
	goals := api.Auto{States: all.States, First: []int{0}, Goals: slices.Repeat([][]int{{0}}, 7)}
	refused := func(name string, m api.Model, a api.Auto, want api.Errno) {
		t.Helper()
		if w, ok, errno := Find(m, a); errno != want || ok || !reflect.DeepEqual(w, api.Word{}) {
			t.Errorf("%s: %v, %v, %d", name, w, ok, errno)
		}
		if ok, errno := All(m, a); errno != want || ok {
			t.Errorf("%s, All: %v, %d", name, ok, errno)
		}
	}
	for name, m := range wrongModels() {
		for _, a := range []api.Auto{all, states, goals, {}} {
			refused(name, m, a, api.ErrRange)
		}
	}
	m := load(t, light)
	refused("201 States", m, states, api.ErrMany)
	refused("7 Goals", m, goals, api.ErrMany)
	refused("both", m, api.Auto{States: states.States, Goals: goals.Goals}, api.ErrMany)
	refused("empty Goals", m, api.Auto{Goals: make([][]int, 7)}, api.ErrMany)
	states.States, goals.Goals = states.States[:200], goals.Goals[:6]
	finds(t, m, states, true)
	finds(t, m, goals, true)
	if ok, errno := All(m, states); !ok || errno != api.OK {
		t.Errorf("200 States: %v, %d", ok, errno)
	}
}

func TestFindIsNewMemory(t *testing.T) { // G3, G4
	m := load(t, light)
	a := api.Auto{States: []api.State{{To: []int{1}}, {To: []int{2, 1}}, {Must: 2, To: []int{3}}, {Not: 1, To: []int{1}}}, First: []int{0}, Goals: [][]int{{2}}}
	w := finds(t, m, a, true)
	v := finds(t, m, a, true)
	if !reflect.DeepEqual(w, v) || len(w.Head) == 0 {
		t.Fatalf("%v, and then %v", w, v)
	}
	head, loop := w.Head[:cap(w.Head)], w.Loop[:cap(w.Loop)]
	for i := range head {
		head[i] = 77
	}
	for i := range loop {
		loop[i] = 88
	}
	if slices.Contains(head, 88) || !word.Good(v) || !model.Path(m, v) {
		t.Error("lists share their memory")
	}
}
