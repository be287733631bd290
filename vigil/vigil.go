// Package vigil answers lines about systems and what holds in them: see doc/08-vigil.md.
package vigil

import (
	"strings"
	"sync"

	"vigil/api"
)

const mostWorkers = 16

// Session is a model, and what is asked of it. Make it by New.
type Session struct {
	model api.Model // without states, if there is none
}

// New makes a session without a model (L2).
func New() *Session { return &Session{} }

// Line answers a line (L2).
func (s *Session) Line(line string) string { return told(s.answer(line)) }

func (s *Session) answer(line string) (string, error) {
	word, rest, blank := strings.Cut(line, " ")
	c, known := s.commands()[word]
	switch {
	case c.ofModel && len(s.model.Names) == 0:
		return "", refused(api.ErrNone)
	case !known || !blank:
		return "", refused(api.ErrForm)
	}
	return c.answer(rest)
}

// job is a script, and where its answers belong.
type job struct {
	script  []string
	answers *[]string
}

// Many answers many scripts, by several goroutines (L3).
func Many(scripts [][]string, workers int) ([][]string, api.Errno) {
	if workers < 1 || workers > mostWorkers {
		return nil, api.ErrRange
	}
	lists := make([][]string, len(scripts))
	jobs := make(chan job)
	var group sync.WaitGroup
	for range workers {
		group.Go(func() {
			for j := range jobs {
				*j.answers = answers(j.script)
			}
		})
	}
	for i, script := range scripts {
		jobs <- job{script, &lists[i]}
	}
	close(jobs)
	group.Wait()
	return lists, api.OK
}

// answers are those of a new session.
func answers(script []string) []string {
	s := New()
	list := make([]string, len(script))
	for i, line := range script {
		list[i] = s.Line(line)
	}
	return list
}
