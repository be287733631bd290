package vigil

import (
	"strings"

	"vigil/api"
)

// The signs of a word's text.
const (
	comma = ","
	open  = "("
	shut  = ")"
)

// mostNumbers is how many a good word may have.
const mostNumbers = 20000

// textOf writes a word, or a path: each number by its name (L1).
func textOf(w api.Word, name func(int) string) string {
	var b strings.Builder
	for _, n := range w.Head {
		b.WriteString(name(n) + comma)
	}
	ahead := open
	for _, n := range w.Loop {
		b.WriteString(ahead + name(n))
		ahead = comma
	}
	return b.String() + shut
}

// wordOf reads what textOf writes; of another text it is api.Word{}, which is not
// good. Its lists together may still be too long for a good word.
func wordOf(text string, number func(string) (int, bool)) api.Word {
	head, rest, opened := strings.Cut(text, open)
	loop, closed := strings.CutSuffix(rest, shut)
	if !opened || !closed {
		return api.Word{}
	}
	var w api.Word
	if head != "" {
		names, parted := strings.CutSuffix(head, comma)
		list, ok := numbersOf(names, number)
		if !parted || !ok {
			return api.Word{}
		}
		w.Head = list
	}
	list, ok := numbersOf(loop, number)
	if !ok {
		return api.Word{}
	}
	w.Loop = list
	return w
}

// numbersOf are those of names with commas between, if these are names, and not
// too many.
func numbersOf(names string, number func(string) (int, bool)) ([]int, bool) {
	var list []int
	for name := range strings.SplitSeq(names, comma) {
		n, ok := number(name)
		if !ok || len(list) == mostNumbers {
			return nil, false
		}
		list = append(list, n)
	}
	return list, true
}
