package proof

import (
	"iter"
	"math/bits"
)

const (
	mostParts   = 6
	mostChoices = 1 << mostParts
)

// choices is a set of choices: it has bit c, if it has the choice c.
type choices uint64

const (
	none  choices = 0
	every choices = 1<<mostChoices - 1
)

// below are the choices below a number: every one, where the number is mostChoices
// or more, as the bit is shifted out then, and 0 less 1 has all bits.
func below(to int) choices { return 1<<to - 1 }

// saying are the choices that say of a part that it is true.
func saying(part int) choices {
	var x choices
	for c := range mostChoices {
		x |= choices(c>>part&1) << c
	}
	return x
}

// at is every, if the set has a choice, else none.
func (x choices) at(c int) choices { return -(x >> c & 1) }

// from yields the choices of the set that are not below one.
func (x choices) from(c int) iter.Seq[int] {
	return func(yield func(int) bool) {
		for rest := x &^ below(c); rest != none; rest &= rest - 1 {
			if !yield(bits.TrailingZeros64(uint64(rest))) {
				return
			}
		}
	}
}
