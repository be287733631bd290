package runs

import (
	"math/rand"
	"reflect"
	"slices"
	"testing"

	"vigil/api"
)

func TestOf(t *testing.T) {
	a := api.Auto{
		States: []api.State{
			{To: []int{0, 1, 1, 2, -1, 9, 4, 5}}, // of no Goal, but leads to 1
			{Must: 1, To: []int{1, 3, 3}},
			{To: []int{2}},            // stays for ever without a Goal
			{Must: 1, Not: 1},         // reads nothing
			{Must: 256, To: []int{1}}, // reads nothing
			{Not: 2, To: []int{5, 1}}, // is on the way
			{To: []int{6, 1}},         // nothing leads to it
			{Must: -1, To: []int{0}},  // reads nothing
			{Not: -256, To: []int{0}}, // reads all, but nothing leads to it
		},
		First: []int{0, 0, 3, 2, 1 << 40, -1 << 63},
		Goals: [][]int{{1, 1, 6, 77, 3}, {1, 0, -5}},
	}
	want := api.Auto{
		States: []api.State{{To: []int{0, 1, 2}}, {Must: 1, To: []int{1}}, {Not: 2, To: []int{2, 1}}},
		First:  []int{0},
		Goals:  [][]int{{1}, {1, 0}},
	}
	if got := Of(a).Auto; !reflect.DeepEqual(got, want) {
		t.Errorf("%v, want %v", got, want)
	}
	a.Goals = append(a.Goals, nil)
	if got := Of(a).Auto; len(got.States) != 0 || len(got.First) != 0 || len(got.Goals) != 3 {
		t.Errorf("an empty Goal: %v", got)
	}
}

func TestBehind(t *testing.T) {
	r := rand.New(rand.NewSource(1))
	for range 2000 {
		var a api.Auto
		n := 1 + r.Intn(4)
		for range n {
			a.States = append(a.States, api.State{Must: r.Intn(4) & r.Intn(4), To: []int{r.Intn(n), r.Intn(n)}})
		}
		a.First = []int{r.Intn(n), r.Intn(n)}
		m := Of(a)
		letters := []int{r.Intn(4), r.Intn(4), r.Intn(4)}[:r.Intn(4)]
		want := map[int]bool{}
		var follow func(list, letters []int)
		follow = func(list, letters []int) {
			for _, s := range list {
				if len(letters) == 0 {
					want[s] = true
				} else if x := letters[0]; m.States[s].Must&^x == 0 {
					follow(m.States[s].To, letters[1:])
				}
			}
		}
		follow(m.First, letters)
		got := m.Behind(letters)
		if len(got) != len(want) || slices.ContainsFunc(got, func(s int) bool { return !want[s] }) {
			t.Fatalf("%v behind %v: %v, want %v", m.Auto, letters, got, want)
		}
	}
}

// anyMachine has States that read what they must, and Goals.
func anyMachine(r *rand.Rand) *Machine {
	var a api.Auto
	n := 1 + r.Intn(8)
	for range n {
		a.States = append(a.States, api.State{Must: r.Intn(4), To: r.Perm(n)[:r.Intn(min(n, 3)+1)]})
	}
	a.First = r.Perm(n)[:1]
	for range r.Intn(4) {
		a.Goals = append(a.Goals, r.Perm(n)[:1+r.Intn(n)])
	}
	return Of(a)
}

func TestLasso(t *testing.T) {
	r := rand.New(rand.NewSource(2))
	yes := 0
	for range 5000 {
		m := anyMachine(r)
		j := m.judge()
		head, loop, ok := j.Lasso()
		if ok != j.Some() {
			t.Fatalf("%+v: %v, %v, %v", m.Auto, head, loop, ok)
		}
		if !ok {
			if head != nil || loop != nil {
				t.Fatalf("%+v: %v, %v", m.Auto, head, loop)
			}
			continue
		}
		yes++
		all := slices.Concat(head, loop, loop[:1])
		if !slices.Contains(m.First, all[0]) {
			t.Fatalf("%+v: %v, %v begin elsewhere", m.Auto, head, loop)
		}
		for i := range all[1:] {
			if !slices.Contains(m.States[all[i]].To, all[i+1]) {
				t.Fatalf("%+v: %v, %v are no run", m.Auto, head, loop)
			}
		}
		for _, goal := range m.Goals {
			if !slices.ContainsFunc(loop, func(s int) bool { return slices.Contains(goal, s) }) {
				t.Fatalf("%+v: %v, %v are not accepted", m.Auto, head, loop)
			}
		}
		if n := len(m.States); len(head) >= n || len(loop) > n*(1+len(m.Goals)) {
			t.Fatalf("%+v: %v, %v are longer than need be", m.Auto, head, loop)
		}
	}
	if yes < 500 || yes > 4500 {
		t.Errorf("%d of 5000 have one", yes)
	}
}

func TestWord(t *testing.T) {
	m := Of(api.Auto{
		States: []api.State{{Must: 1, To: []int{1}}, {Not: 1, To: []int{1, 2}}, {Must: 2, Not: 1, To: []int{1}}},
		First:  []int{0},
		Goals:  [][]int{{2}},
	})
	if w, ok := m.Word(); !ok || !reflect.DeepEqual(w, api.Word{Head: []int{1}, Loop: []int{0, 2}}) {
		t.Errorf("%v, %v", w, ok)
	}
	if w, ok := Of(api.Auto{}).Word(); ok || !reflect.DeepEqual(w, api.Word{}) {
		t.Errorf("%v, %v", w, ok)
	}
}

// TestBesideGoesOn: from any place on the rest is the same.
func TestBesideGoesOn(t *testing.T) {
	m := Of(api.Auto{
		States: []api.State{{To: []int{0, 1, 2}}, {Must: 1, To: []int{2, 0}}, {Not: 1, To: []int{1}}},
		First:  []int{0, 1, 2},
	})
	system := api.Model{Letters: []int{1, 0, 3}, To: [][]int{{2, 0, 1}, {0}, {1, 2}}}
	g := m.Beside(system, m.First)
	type step struct {
		place int
		to    Spot
	}
	list := func(n Spot, from int) []step {
		var all []step
		for place, to := range g.Next(n, from) {
			all = append(all, step{place, to})
		}
		return all
	}
	for n := range g.Size {
		at := Spot{n / len(m.States), n % len(m.States)}
		all := list(at, 0)
		want := 0
		for _, p := range system.To[at.Place] {
			for _, s := range m.States[at.State].To {
				if Reads(m.States[s], system.Letters[p]) {
					if all[want].to != (Spot{p, s}) {
						t.Fatalf("%v: %v", at, all)
					}
					want++
				}
			}
		}
		if len(all) != want || g.Number(at) != n {
			t.Fatalf("%v is %d: %v", at, g.Number(at), all)
		}
		for i, s := range all {
			if rest := list(at, s.place+1); !slices.Equal(rest, all[i+1:]) {
				t.Fatalf("%v from %d: %v of %v", at, s.place+1, rest, all)
			}
		}
	}
}
