package model

import (
	"cmp"
	"slices"
	"strings"

	"vigil/api"
	"vigil/letter"
)

// Where the words of a state's line stand.
const (
	nameAt = iota
	lettersAt
	signAt
	behindAt
)

// sign parts a state from those behind it.
const sign = ">"

// draft is a model whose lines are being read: names may stand there for states
// that come only later.
type draft struct {
	api.Model
	lines  []int      // of each state: its line
	behind [][]string // of each state: the names of those behind it
}

// read takes in one line.
func (d *draft) read(line string, number int) api.Errno {
	words := strings.FieldsFunc(line, func(r rune) bool { return r == ' ' })
	if len(words) == 0 {
		return api.OK
	}
	if !formed(words) {
		return api.ErrForm
	}
	name, behind := words[nameAt], words[behindAt:]
	errno := cmp.Or(
		refusal(slices.Contains(d.Names, name) || !distinct(behind), api.ErrTwice),
		refusal(len(d.Names) == mostStates, api.ErrMany),
	)
	if errno != api.OK {
		return errno
	}
	set, _ := letter.Set(words[lettersAt])
	d.Names = append(d.Names, strings.Clone(name))
	d.Letters = append(d.Letters, set)
	d.lines = append(d.lines, number)
	d.behind = append(d.behind, behind)
	return api.OK
}

// refusal is an error, if it is one.
func refusal(is bool, errno api.Errno) api.Errno {
	if is {
		return errno
	}
	return api.OK
}

// formed tells whether words are those of a state's line.
func formed(words []string) bool {
	if len(words) <= behindAt || words[signAt] != sign || !isName(words[nameAt]) {
		return false
	}
	_, ok := letter.Set(words[lettersAt])
	return ok && every(words[behindAt:], isName)
}

// join finds the states behind each state by their names.
func (d *draft) join() (api.Errno, int) {
	if len(d.Names) == 0 {
		return api.ErrNone, 0
	}
	for s, names := range d.behind {
		var to []int
		for _, name := range names {
			t := slices.Index(d.Names, name)
			if t < 0 {
				return api.ErrNone, d.lines[s]
			}
			to = append(to, t)
		}
		d.To = append(d.To, to)
	}
	return api.OK, 0
}

func isName(s string) bool {
	return 0 < len(s) && len(s) <= longName && every([]byte(s), func(c byte) bool {
		return 'a' <= c && c <= 'z' || '0' <= c && c <= '9'
	})
}
