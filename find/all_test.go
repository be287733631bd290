package find

import (
	"math/rand"
	"reflect"
	"slices"
	"testing"

	"vigil/api"
	"vigil/auto"
	"vigil/model"
)

// plainByWords is what H2 calls plain.
func plainByWords(a api.Auto) bool {
	lists := [][]int{a.First}
	for _, s := range a.States {
		lists = append(lists, s.To)
	}
	for _, list := range lists {
		if len(list) > 1 {
			return false
		}
		for _, s := range list {
			if s < 0 || s >= len(a.States) {
				return false
			}
		}
	}
	return len(a.Goals) == 0
}

// allByWords follows all ways of a model at once, so long that whatever comes at
// all has come, and reads what is there by a plain automaton.
func allByWords(m api.Model, a api.Auto) bool {
	if len(a.First) == 0 {
		return false
	}
	now := map[spot]bool{{0, a.First[0]}: true}
	for range len(m.To)*len(a.States) + 1 {
		next := map[spot]bool{}
		for n := range now {
			state := a.States[n.state]
			if !reads(state, m.Letters[n.place]) || len(state.To) == 0 {
				return false
			}
			for _, p := range m.To[n.place] {
				next[spot{p, state.To[0]}] = true
			}
		}
		now = next
	}
	return true
}

// anyPath is a path of a model.
func anyPath(r *rand.Rand, m api.Model) api.Word {
	at := 0
	var states []int
	for range r.Intn(5) {
		states = append(states, at)
		at = m.To[at][r.Intn(len(m.To[at]))]
	}
	for !slices.Contains(states, at) {
		states = append(states, at)
		at = m.To[at][r.Intn(len(m.To[at]))]
	}
	start := slices.Index(states, at)
	return api.Word{Head: states[:start], Loop: states[start:]}
}

func anyPlain(r *rand.Rand) api.Auto {
	var a api.Auto
	n := 1 + r.Intn(5)
	list := func() []int {
		if r.Intn(16) == 0 {
			return nil
		}
		return []int{r.Intn(n)}
	}
	for range n {
		s := anyState(r)
		s.Must &= r.Intn(256)
		s.To = list()
		a.States = append(a.States, s)
	}
	a.First = list()
	return a
}

func TestAllOfAny(t *testing.T) { // H2, G4
	r := rand.New(rand.NewSource(4))
	yes := 0
	for round := range 20000 {
		m, a := anyModel(r), anyPlain(r)
		if round%4 == 0 {
			a = anyAuto(r)
		}
		before, automaton := copiedModel(m), copiedAuto(a)
		want := plainByWords(a) && allByWords(m, a)
		got, errno := All(m, a)
		if got != want || errno != api.OK {
			t.Fatalf("%+v beside %+v: %v, %d", a, m, got, errno)
		}
		if !reflect.DeepEqual(m, before) || !reflect.DeepEqual(a, automaton) {
			t.Fatalf("%+v beside %+v: changed", automaton, before)
		}
		if want {
			yes++
			if w := anyPath(r, m); !model.Path(m, w) || !auto.Accepts(a, model.Trace(m, w)) {
				t.Fatalf("%+v beside %+v: %v is not accepted", a, m, w)
			}
			finds(t, m, a, true)
		}
	}
	if yes < 1000 || yes > 10000 {
		t.Errorf("%d of 20000 accept all", yes)
	}
}

func TestAll(t *testing.T) { // H2
	m := load(t, light)
	same := []api.State{{To: []int{0}}}
	for name, c := range map[string]struct {
		a    api.Auto
		want bool
	}{
		"whatever comes":                {api.Auto{States: same, First: []int{0}}, true},
		"an empty list of Goals":        {api.Auto{States: same, First: []int{0}, Goals: [][]int{}}, true},
		"never c":                       {api.Auto{States: []api.State{{Not: 4, To: []int{0}}}, First: []int{0}}, true},
		"always a":                      {api.Auto{States: []api.State{{Must: 1, To: []int{0}}}, First: []int{0}}, false},
		"a first":                       {api.Auto{States: []api.State{{To: []int{0}}, {Must: 1, Not: 254, To: []int{0}}}, First: []int{1}}, true},
		"b first":                       {api.Auto{States: []api.State{{To: []int{0}}, {Must: 2, To: []int{0}}}, First: []int{1}}, false},
		"ends":                          {api.Auto{States: []api.State{{To: []int{1}}, {To: []int{2}}, {}}, First: []int{0}}, false},
		"nothing":                       {api.Auto{}, false},
		"no First":                      {api.Auto{States: same}, false},
		"two First":                     {api.Auto{States: same, First: []int{0, 0}}, false},
		"a First that is none":          {api.Auto{States: same, First: []int{1}}, false},
		"a First below 0":               {api.Auto{States: same, First: []int{-1}}, false},
		"a Goal that is met":            {api.Auto{States: same, First: []int{0}, Goals: [][]int{{0}}}, false},
		"an empty Goal":                 {api.Auto{States: same, First: []int{0}, Goals: [][]int{{}}}, false},
		"two To":                        {api.Auto{States: []api.State{{To: []int{0, 0}}}, First: []int{0}}, false},
		"two To that do not matter":     {api.Auto{States: []api.State{{To: []int{0}}, {To: []int{0, 1}}}, First: []int{0}}, false},
		"a To that is none":             {api.Auto{States: []api.State{{To: []int{1}}}, First: []int{0}}, false},
		"a To beside that does nothing": {api.Auto{States: []api.State{{To: []int{0, 7}}}, First: []int{0}}, false},
		"a To that does not matter":     {api.Auto{States: []api.State{{To: []int{0}}, {To: []int{-1}}}, First: []int{0}}, false},
		"an empty To that matters not":  {api.Auto{States: []api.State{{To: []int{0}}, {}}, First: []int{0}}, true},
		"a Must that nothing has":       {api.Auto{States: []api.State{{Must: 256, To: []int{0}}}, First: []int{0}}, false},
		"a Not that nothing has":        {api.Auto{States: []api.State{{Not: -256, To: []int{0}}}, First: []int{0}}, true},
	} {
		if got, errno := All(m, c.a); got != c.want || errno != api.OK {
			t.Errorf("%s: %v, %d", name, got, errno)
		}
	}
}

// TestAllLong: what spoils it comes only when both rings are at their ends.
func TestAllLong(t *testing.T) { // H2
	a := api.Auto{First: []int{0}}
	for s := range 199 {
		a.States = append(a.States, api.State{To: []int{(s + 1) % 199}})
	}
	m := ringModel(12)
	m.Letters = make([]int, 12)
	m.Letters[11] = 1
	if ok, errno := All(m, a); !ok || errno != api.OK {
		t.Errorf("%v, %d", ok, errno)
	}
	a.States[198].Not = 1
	if ok, errno := All(m, a); ok || errno != api.OK {
		t.Errorf("%v, %d", ok, errno)
	}
}
