// Package check tells whether a formula always holds: see doc/06-check.md.
package check

import (
	"vigil/api"
	"vigil/model"
)

// Check tells whether a formula holds in all traces, or a path where not (J1).
func Check(m api.Model, f api.Form) (api.Word, bool, api.Errno) {
	if !model.Good(m) {
		return api.Word{}, false, api.ErrRange
	}
	a := claim{f}.not().path(m)
	return a.Word, !a.found() && a.errno == api.OK, a.errno
}

// Sat tells whether a formula holds in some word (J2).
func Sat(f api.Form) (api.Word, bool, api.Errno) {
	a := claim{f}.word()
	return a.Word, a.found(), a.errno
}

// Apart tells whether two formulas say different things (J3).
func Apart(f api.Form, g api.Form) (api.Word, bool, api.Errno) {
	return Sat(claim{f}.differs(claim{g}).Form)
}
