// Package find looks for paths that are read: see doc/05-find.md.
package find

import "vigil/api"

// Find looks for a path whose trace is accepted (H1).
func Find(m api.Model, a api.Auto) (api.Word, bool, api.Errno) { return api.Word{}, false, api.OK }

// All tells whether all traces are accepted by a plain automaton (H2).
func All(m api.Model, a api.Auto) (bool, api.Errno) { return false, api.OK }
