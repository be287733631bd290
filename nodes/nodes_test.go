package nodes

import (
	"slices"
	"testing"

	"vigil/api"
)

func TestEachNodeOnce(t *testing.T) {
	a := api.Form{Op: api.Prop}
	next := api.Form{Op: api.Next, Kids: []api.Form{a}}
	l, ok := Of(api.Form{Op: api.And, Kids: []api.Form{next, {Op: api.Or, Kids: []api.Form{a, next}}}})
	want := []Node{Leaf(api.Prop, 0), One(api.Next, 0), Two(api.Or, 0, 1), Two(api.And, 1, 2)}
	if !ok || l.Len() != len(want) {
		t.Fatalf("%v, %v", l, ok)
	}
	for id, n := range want {
		if l.At(id) != n {
			t.Errorf("Node %d is %v, want %v", id, l.At(id), n)
		}
	}
	if got := l.Within(2); !slices.Equal(got, []int{0, 1, 2}) {
		t.Errorf("Within: %v", got)
	}
	if got := l.Sizes(); !slices.Equal(got, []int64{1, 2, 4, 7}) {
		t.Errorf("Sizes: %v", got)
	}
}

func TestSizesStopAboveMost(t *testing.T) {
	l := New()
	id := l.Add(Leaf(api.True, 0))
	for range 30 {
		id = l.Add(Two(api.And, id, id))
	}
	if got := l.Sizes()[id]; got != Most {
		t.Errorf("a size of Most is told as %d", got)
	}
	for range 100 {
		id = l.Add(Two(api.And, id, id))
	}
	if got := l.Sizes()[id]; got != Most+1 {
		t.Errorf("a size far above Most is told as %d", got)
	}
}

func TestWithinGoesLeftFirst(t *testing.T) {
	l := New()
	a, b := l.Add(Leaf(api.Prop, 0)), l.Add(Leaf(api.Prop, 1))
	both := l.Add(Two(api.Until, b, a))
	top := l.Add(Two(api.And, both, a))
	if got := l.Within(top); !slices.Equal(got, []int{b, a, both, top}) {
		t.Errorf("Within: %v", got)
	}
}

func TestWhatIsWithinItself(t *testing.T) {
	round := map[int][]int{0: {1, 2}, 1: {3}, 2: {3}, 3: {4}, 4: {}}
	kids := func(k int) ([]int, bool) { return round[k], true }
	count := 0
	leave := func(int, []int) int { count++; return 0 }
	if !walk(0, kids, leave) || count != 5 {
		t.Errorf("two ways to one thing: left %d", count)
	}
	round[4] = []int{1}
	if walk(0, kids, leave) {
		t.Error("a round is not seen")
	}
	round[4] = []int{4}
	if walk(0, kids, leave) {
		t.Error("a round of one is not seen")
	}
}
