// Package letter writes and reads sets of the letters a to h, which are bits from
// a (1) to h (128).
package letter

// none is how the empty set is written.
const none = "-"

const (
	first = 'a'
	last  = 'h'
)

// Set is the set that a text tells, and whether it tells one: the letters rise,
// and each stands there once.
func Set(s string) (int, bool) {
	if s == none {
		return 0, true
	}
	set := 0
	for _, c := range []byte(s) {
		if c < first || c > last {
			return 0, false
		}
		bit := 1 << (c - first)
		if bit <= set { // a set of lower letters is less than this one
			return 0, false
		}
		set |= bit
	}
	return set, set != 0
}

// Text writes a set.
func Text(set int) string {
	if set == 0 {
		return none
	}
	var s []byte
	for c := byte(first); c <= last; c++ {
		if set>>(c-first)&1 == 1 {
			s = append(s, c)
		}
	}
	return string(s)
}
