// Package model knows what a system may do: see doc/04-model.md.
package model

import "vigil/api"

// Parse reads a model (E2).
func Parse(s string) (api.Model, api.Errno, int) { return api.Model{}, api.OK, 0 }

// Good tells whether a model is one (E3).
func Good(m api.Model) bool { return false }

// Print writes one (E3).
func Print(m api.Model) string { return "" }

// Path tells whether a word is a path (E4).
func Path(m api.Model, w api.Word) bool { return false }

// Trace tells a path's letters (E4).
func Trace(m api.Model, w api.Word) api.Word { return api.Word{} }
