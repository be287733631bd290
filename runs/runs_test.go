package runs

import (
	"math/rand"
	"reflect"
	"slices"
	"testing"

	"vigil/api"
)

func TestOf(t *testing.T) {
	a := api.Auto{
		States: []api.State{
			{To: []int{0, 1, 1, 2, -1, 9, 4, 5}}, // of no Goal, but leads to 1
			{Must: 1, To: []int{1, 3, 3}},
			{To: []int{2}},            // stays for ever without a Goal
			{Must: 1, Not: 1},         // reads nothing
			{Must: 256, To: []int{1}}, // reads nothing
			{Not: 2, To: []int{5, 1}}, // is on the way
			{To: []int{6, 1}},         // nothing leads to it
			{Must: -1, To: []int{0}},  // reads nothing
			{Not: -256, To: []int{0}}, // reads all, but nothing leads to it
		},
		First: []int{0, 0, 3, 2, 1 << 40, -1 << 63},
		Goals: [][]int{{1, 1, 6, 77, 3}, {1, 0, -5}},
	}
	want := api.Auto{
		States: []api.State{{To: []int{0, 1, 2}}, {Must: 1, To: []int{1}}, {Not: 2, To: []int{2, 1}}},
		First:  []int{0},
		Goals:  [][]int{{1}, {1, 0}},
	}
	if got := Of(a).Auto; !reflect.DeepEqual(got, want) {
		t.Errorf("%v, want %v", got, want)
	}
	a.Goals = append(a.Goals, nil)
	if got := Of(a).Auto; len(got.States) != 0 || len(got.First) != 0 || len(got.Goals) != 3 {
		t.Errorf("an empty Goal: %v", got)
	}
}

func TestBehind(t *testing.T) {
	r := rand.New(rand.NewSource(1))
	for range 2000 {
		var a api.Auto
		n := 1 + r.Intn(4)
		for range n {
			a.States = append(a.States, api.State{Must: r.Intn(4) & r.Intn(4), To: []int{r.Intn(n), r.Intn(n)}})
		}
		a.First = []int{r.Intn(n), r.Intn(n)}
		m := Of(a)
		letters := []int{r.Intn(4), r.Intn(4), r.Intn(4)}[:r.Intn(4)]
		want := map[int]bool{}
		var follow func(list, letters []int)
		follow = func(list, letters []int) {
			for _, s := range list {
				if len(letters) == 0 {
					want[s] = true
				} else if x := letters[0]; m.States[s].Must&^x == 0 {
					follow(m.States[s].To, letters[1:])
				}
			}
		}
		follow(m.First, letters)
		got := m.Behind(letters)
		if len(got) != len(want) || slices.ContainsFunc(got, func(s int) bool { return !want[s] }) {
			t.Fatalf("%v behind %v: %v, want %v", m.Auto, letters, got, want)
		}
	}
}
