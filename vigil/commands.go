package vigil

import (
	"slices"
	"strconv"
	"strings"

	"vigil/api"
	"vigil/check"
	"vigil/letter"
	"vigil/ltl"
	"vigil/model"
	"vigil/proof"
	"vigil/word"
)

// parting stands between the lines of a model, and between two things of a line.
const parting = ";"

// command is what a line's word asks for: it answers the rest of the line.
type command struct {
	ofModel bool // it is asked of the session's model
	answer  func(rest string) (string, error)
}

// commands are those of L2.
func (s *Session) commands() map[string]command {
	return map[string]command{
		"model": {answer: s.load},
		"show":  {answer: ofForm(show)},
		"check": {answer: ofForm(s.check), ofModel: true},
		"prove": {answer: ofForm(s.prove), ofModel: true},
		"sat":   {answer: ofForm(sat)},
		"apart": {answer: apart},
		"trace": {answer: s.trace, ofModel: true},
		"word":  {answer: holds},
	}
}

// ofForm answers a formula's text by what is answered to the formula.
func ofForm(answer func(api.Form) (string, error)) func(string) (string, error) {
	return func(text string) (string, error) {
		f, err := formOf(text)
		if err != nil {
			return "", err
		}
		return answer(f)
	}
}

func formOf(text string) (api.Form, error) {
	f, errno, at := ltl.Parse(text)
	return f, refusedAt(errno, at)
}

func (s *Session) load(rest string) (string, error) {
	m, errno, line := model.Parse(strings.ReplaceAll(rest, parting, "\n"))
	if errno != api.OK {
		return "", refusedAt(errno, line)
	}
	s.model = m
	return strconv.Itoa(len(m.Names)), nil
}

func show(f api.Form) (string, error) { return ltl.Print(f), nil }

func (s *Session) check(f api.Form) (string, error) {
	path, always, errno := check.Check(s.model, f)
	if always {
		return "holds", nil
	}
	return textOf(path, s.name), refused(errno)
}

func (s *Session) name(state int) string { return s.model.Names[state] }

func (s *Session) prove(f api.Form) (string, error) {
	entries, proved, errno := proof.Prove(s.model, f)
	switch {
	case !proved:
		return "open", refused(errno)
	case len(entries) == 0:
		return "empty", nil
	}
	var texts []string
	for _, e := range entries {
		texts = append(texts, entryText(e.State, e.Set, e.Rank, e.Which))
	}
	return strings.Join(texts, " "), nil
}

func entryText(numbers ...int) string {
	var texts []string
	for _, n := range numbers {
		texts = append(texts, strconv.Itoa(n))
	}
	return strings.Join(texts, ".")
}

func sat(f api.Form) (string, error) {
	w, some, errno := check.Sat(f)
	if !some {
		return "never", refused(errno)
	}
	return textOf(w, letter.Text), nil
}

func apart(rest string) (string, error) {
	first, second, parted := strings.Cut(rest, parting)
	if !parted {
		return "", refused(api.ErrForm)
	}
	f, err := formOf(first)
	if err != nil {
		return "", err
	}
	g, err := formOf(second)
	if err != nil {
		return "", err
	}
	w, differ, errno := check.Apart(f, g)
	if !differ {
		return "same", refused(errno)
	}
	return textOf(w, letter.Text), nil
}

func (s *Session) trace(rest string) (string, error) {
	path := wordOf(rest, s.state)
	if !model.Path(s.model, path) {
		return "", refused(api.ErrForm)
	}
	return textOf(model.Trace(s.model, path), letter.Text), nil
}

// state is the number of the state of a name.
func (s *Session) state(name string) (int, bool) {
	n := slices.Index(s.model.Names, name)
	return n, n >= 0
}

func holds(rest string) (string, error) {
	text, formula, parted := strings.Cut(rest, parting)
	w := wordOf(text, letter.Set)
	if !parted || !word.Good(w) {
		return "", refused(api.ErrForm)
	}
	f, err := formOf(formula)
	if err != nil {
		return "", err
	}
	if word.Holds(f, w) {
		return "yes", nil
	}
	return "no", nil
}
