// Package find looks for paths that are read: see doc/05-find.md.
package find

import (
	"vigil/api"
	"vigil/graph"
	"vigil/model"
	"vigil/runs"
)

const (
	mostStates = 200
	mostGoals  = 6
)

// Find looks for a path whose trace is accepted (H1).
func Find(m api.Model, a api.Auto) (api.Word, bool, api.Errno) {
	if errno := refusal(m, a); errno != api.OK {
		return api.Word{}, false, errno
	}
	// It is good as a word: 12 states beside 200 States are 2400 nodes at most, and
	// the Loop goes through these at most once for each Goal and once back.
	w, found := runs.Of(a).Path(m)
	return w, found, api.OK
}

// All tells whether all traces are accepted by a plain automaton (H2).
func All(m api.Model, a api.Auto) (bool, api.Errno) {
	if errno := refusal(m, a); errno != api.OK {
		return false, errno
	}
	if !plain(a) {
		return false, api.OK
	}
	r := reader{m, a}
	return graph.Nearest(nil, r.first, r.next, r.stuck) == nil, api.OK
}

func refusal(m api.Model, a api.Auto) api.Errno {
	switch {
	case !model.Good(m):
		return api.ErrRange
	case len(a.States) > mostStates || len(a.Goals) > mostGoals:
		return api.ErrMany
	}
	return api.OK
}
