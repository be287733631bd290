// Package vigil answers lines about systems and what holds in them: see doc/08-vigil.md.
package vigil

import "vigil/api"

// Session is a model, and what is asked of it. Make it by New.
type Session struct{}

// New makes a session without a model (L2).
func New() *Session { return &Session{} }

// Line answers a line (L2).
func (s *Session) Line(line string) string { return "" }

// Many answers many scripts, by several goroutines (L3).
func Many(scripts [][]string, workers int) ([][]string, api.Errno) { return nil, api.OK }
