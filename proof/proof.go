// Package proof tells why a formula always holds: see doc/07-proof.md.
package proof

import "vigil/api"

// Valid tells whether a proof is one (K2).
func Valid(m api.Model, f api.Form, l []api.Entry) bool { return false }

// Prove makes one (K3).
func Prove(m api.Model, f api.Form) ([]api.Entry, bool, api.Errno) { return nil, false, api.OK }
