// Package auto knows automata that read words without an end: see doc/03-auto.md.
package auto

import "vigil/api"

// Accepts tells whether there is an accepted run (D1).
func Accepts(a api.Auto, w api.Word) bool { return false }

// Empty tells whether there is none on any word (D2).
func Empty(a api.Auto) bool { return false }

// Of makes an automaton of a formula (D3).
func Of(f api.Form) (api.Auto, api.Errno) { return api.Auto{}, api.OK }
