package model

// noLetters is how the empty set of letters is written.
const noLetters = "-"

const (
	firstLetter = 'a'
	lastLetter  = 'h'
)

// setOf is the set of letters that a word tells, and whether it tells one.
func setOf(s string) (int, bool) {
	if s == noLetters {
		return 0, true
	}
	set := 0
	for _, c := range []byte(s) {
		if c < firstLetter || c > lastLetter {
			return 0, false
		}
		bit := 1 << (c - firstLetter)
		if bit <= set { // the letters rise: a set of lower ones is less than this one
			return 0, false
		}
		set |= bit
	}
	return set, set != 0
}

// setText writes a set of letters.
func setText(set int) string {
	if set == 0 {
		return noLetters
	}
	var s []byte
	for c := byte(firstLetter); c <= lastLetter; c++ {
		if set>>(c-firstLetter)&1 == 1 {
			s = append(s, c)
		}
	}
	return string(s)
}
