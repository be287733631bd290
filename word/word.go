// Package word knows words without an end: see doc/02-word.md.
package word

import (
	"slices"

	"vigil/api"
	"vigil/nodes"
)

const (
	longest = 20000
	highest = 255 // the set of all letters from a to h
)

// Good tells whether a word is one (B1).
func Good(w api.Word) bool {
	if len(w.Loop) == 0 || len(w.Head)+len(w.Loop) > longest {
		return false
	}
	return letters(w.Head).good() && letters(w.Loop).good()
}

// At tells a word's letter (B1).
func At(w api.Word, n int) int {
	switch {
	case n < 0 || !Good(w):
		return -1
	case n < len(w.Head):
		return w.Head[n]
	}
	return w.Loop[(n-len(w.Head))%len(w.Loop)]
}

// Truths tells where a formula is true (B2).
func Truths(f api.Form, w api.Word) []bool {
	if !Good(w) {
		return nil
	}
	l, ok := nodes.Of(f)
	if !ok {
		return nil
	}
	all := placesOf(w)
	rows := make([]truths, l.Len())
	waiting := uses(l)
	for id := range rows {
		n := l.At(id)
		rows[id] = all.row(n, rows)
		for _, kid := range n.Kids() {
			waiting[kid]--
			if waiting[kid] == 0 {
				rows[kid] = nil // so that long formulas need no more memory than what is asked again
			}
		}
	}
	return rows[len(rows)-1]
}

// uses tells of each Node how often it is a Kid.
func uses(l *nodes.List) []int {
	count := make([]int, l.Len())
	for id := range count {
		for _, kid := range l.At(id).Kids() {
			count[kid]++
		}
	}
	return count
}

// Holds tells whether it is true at the beginning (B2).
func Holds(f api.Form, w api.Word) bool {
	row := Truths(f, w)
	return len(row) > 0 && row[0]
}

// Least is the shortest word that means the same (B3).
func Least(w api.Word) api.Word {
	if !Good(w) {
		return api.Word{}
	}
	loop := letters(w.Loop[:letters(w.Loop).period()])
	head := letters(w.Head)
	// A Head that ends as the Loop does is as well without that end, if the Loop
	// begins as much earlier.
	back := 0
	for back < len(head) && head[len(head)-1-back] == loop.fromEnd(back) {
		back++
	}
	start := len(loop) - back%len(loop)
	return api.Word{
		Head: append([]int(nil), head[:len(head)-back]...),
		Loop: slices.Concat(loop[start:], loop[:start]),
	}
}

// Same tells whether two words mean the same (B3).
func Same(u api.Word, w api.Word) bool {
	if !Good(u) || !Good(w) {
		return false
	}
	a, b := Least(u), Least(w)
	return slices.Equal(a.Head, b.Head) && slices.Equal(a.Loop, b.Loop)
}
