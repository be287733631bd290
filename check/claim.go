package check

import (
	"vigil/api"
	"vigil/auto"
	"vigil/runs"
)

// claim is a formula of which it is asked where it holds.
type claim struct{ api.Form }

// joined is a claim of others.
func joined(op int, claims ...claim) claim {
	whole := claim{api.Form{Op: op}}
	for _, c := range claims {
		whole.Kids = append(whole.Kids, c.Form)
	}
	return whole
}

func (c claim) not() claim { return joined(api.Not, c) }

// differs claims that just one of two holds.
func (c claim) differs(d claim) claim {
	return joined(api.Or, joined(api.And, c, d.not()), joined(api.And, c.not(), d))
}

// answer is a word where a claim holds, without letters if there is none; or an
// error.
type answer struct {
	api.Word
	errno api.Errno
}

func (a answer) found() bool { return len(a.Loop) > 0 }

// word looks for one among all words.
func (c claim) word() answer { return c.search((*runs.Machine).Word) }

// path looks for one of a good model.
func (c claim) path(m api.Model) answer {
	return c.search(func(reader *runs.Machine) (api.Word, bool) { return reader.Path(m) })
}

// search looks for one among those that the automaton of the claim accepts. This
// may have more States than find takes; but what comes behind a State hangs only
// on which of at most 6 Parts are owed there, so beside 12 states of a model the
// pieces of a run are short enough for a good word.
func (c claim) search(look func(*runs.Machine) (api.Word, bool)) answer {
	a, errno := auto.Of(c.Form)
	if errno != api.OK {
		return answer{errno: errno}
	}
	w, _ := look(runs.Of(a))
	return answer{Word: w}
}
