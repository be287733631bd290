package model

import (
	"cmp"
	"slices"
	"strings"

	"vigil/api"
	"vigil/letter"
)

// sound tells whether a model is what lines can tell, however long they are.
func sound(m api.Model) bool {
	n := len(m.Names)
	if n < 1 || n > mostStates || len(m.Letters) != n || len(m.To) != n {
		return false
	}
	state := func(s int) bool { return 0 <= s && s < n }
	set := func(x int) bool { return 0 <= x && x <= highest }
	some := func(to []int) bool { return 0 < len(to) && len(to) <= n && every(to, state) }
	return every(m.Names, isName) && distinct(m.Names) && every(m.Letters, set) &&
		every(m.To, some) && every(m.To, distinct[int])
}

// every tells whether something is so of all that a list has.
func every[T any](list []T, is func(T) bool) bool {
	return !slices.ContainsFunc(list, func(x T) bool { return !is(x) })
}

// distinct tells whether a list has nothing twice.
func distinct[T cmp.Ordered](list []T) bool {
	sorted := slices.Sorted(slices.Values(list))
	return len(slices.Compact(sorted)) == len(list)
}

// text is that of a sound model.
func text(m api.Model) string {
	var b strings.Builder
	for s, name := range m.Names {
		b.WriteString(name + " " + letter.Text(m.Letters[s]) + " " + sign)
		for _, t := range m.To[s] {
			b.WriteString(" " + m.Names[t])
		}
		b.WriteByte('\n')
	}
	return b.String()
}
