package proof

import "vigil/api"

// ledger is Entries by their spots, and the rules that they are held against.
type ledger struct {
	*rules
	entries map[spot]api.Entry
}

func spotOf(e api.Entry) spot { return spot{e.State, e.Set} }

// ledgerOf takes Entries, each of a spot of its own, else it answers false.
func ledgerOf(r *rules, l []api.Entry) (ledger, bool) {
	b := ledger{r, map[spot]api.Entry{}}
	for _, e := range l {
		_, twice := b.entries[spotOf(e)]
		if twice || !b.has(spotOf(e)) || e.Rank < 0 {
			return ledger{}, false
		}
		b.entries[spotOf(e)] = e
	}
	return b, true
}

// begun tells whether there is an Entry wherever the opposite is true.
func (b ledger) begun() bool {
	for n := range b.begins {
		if _, there := b.entries[n]; !there {
			return false
		}
	}
	return true
}

// goesOn tells whether each step from an Entry leads to one that may follow.
func (b ledger) goesOn() bool {
	for n, e := range b.entries {
		for _, to := range b.behind(n, 0) {
			next, there := b.entries[to]
			if !there || !b.follows(e, next) {
				return false
			}
		}
	}
	return true
}

// follows tells whether the Rank falls, or stays where something is waited for.
func (b ledger) follows(e, next api.Entry) bool {
	return next.Rank < e.Rank ||
		next.Rank == e.Rank && next.Which == e.Which && b.waits(spotOf(next), next.Which)
}
