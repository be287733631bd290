// Package model knows what a system may do: see doc/04-model.md.
package model

import (
	"strings"

	"vigil/api"
	"vigil/word"
)

const (
	longest    = 1000 // bytes of a text
	longName   = 6
	mostStates = 12
	highest    = 255 // the set of all letters from a to h
)

// Parse reads a model (E2).
func Parse(s string) (api.Model, api.Errno, int) {
	if len(s) > longest {
		return api.Model{}, api.ErrLong, 0
	}
	var d draft
	for i, line := range strings.Split(s, "\n") {
		if errno := d.read(line, i+1); errno != api.OK {
			return api.Model{}, errno, i + 1
		}
	}
	if errno, line := d.join(); errno != api.OK {
		return api.Model{}, errno, line
	}
	return d.Model, api.OK, 0
}

// Good tells whether a model is one (E3).
func Good(m api.Model) bool {
	// The text that is read needs no byte 10 behind its last line.
	return sound(m) && len(text(m))-1 <= longest
}

// Print writes one (E3).
func Print(m api.Model) string {
	if !Good(m) {
		return ""
	}
	return text(m)
}

// Path tells whether a word is a path (E4).
func Path(m api.Model, w api.Word) bool {
	// The states' numbers are from 0 to 255, as their letters are: so a path is
	// good with these just if it is good as it stands.
	return Good(m) && word.Good(w) && follows(m, w)
}

// Trace tells a path's letters (E4).
func Trace(m api.Model, w api.Word) api.Word {
	if !Path(m, w) {
		return api.Word{}
	}
	return api.Word{Head: letters(m, w.Head), Loop: letters(m, w.Loop)}
}

// follows tells whether the numbers of a good word are such of states as may
// come, one behind the other.
func follows(m api.Model, w api.Word) bool {
	may := make([]int, len(m.To)) // sets of numbers, as bits
	for s, to := range m.To {
		for _, t := range to {
			may[s] |= 1 << t
		}
	}
	next := 1 << 0
	for _, list := range [][]int{w.Head, w.Loop, w.Loop[:1]} {
		for _, s := range list {
			if next>>s&1 == 0 {
				return false
			}
			next = may[s]
		}
	}
	return true
}

// letters are those of states instead of their numbers.
func letters(m api.Model, states []int) []int {
	var list []int
	for _, s := range states {
		list = append(list, m.Letters[s])
	}
	return list
}
