// Package proof tells why a formula always holds: see doc/07-proof.md.
package proof

import (
	"vigil/api"
	"vigil/check"
	"vigil/model"
)

// Valid tells whether a proof is one (K2).
func Valid(m api.Model, f api.Form, l []api.Entry) bool {
	if !model.Good(m) {
		return false
	}
	r, ok := rulesOf(m, f)
	if !ok {
		return false
	}
	b, ok := ledgerOf(r, l)
	return ok && b.begun() && b.goesOn()
}

// Prove makes one (K3).
func Prove(m api.Model, f api.Form) ([]api.Entry, bool, api.Errno) {
	if _, holds, errno := check.Check(m, f); !holds {
		return nil, false, errno
	}
	r, _ := rulesOf(m, f) // Check has told that they can be made
	return r.proof(), true, api.OK
}
