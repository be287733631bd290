package rules

import (
	"vigil/api"
	"vigil/auto"
	"vigil/check"
	"vigil/find"
	"vigil/ltl"
	"vigil/model"
	"vigil/proof"
	"vigil/vigil"
	"vigil/word"
)

// The faces, as the chapters tell them: another signature does not compile.
var (
	_ func(string) (api.Form, api.Errno, int) = ltl.Parse
	_ func(api.Form) string                   = ltl.Print
	_ func(api.Form) api.Form                 = ltl.Plain
	_ func(api.Form) []api.Form               = ltl.Parts

	_ func(api.Word) bool             = word.Good
	_ func(api.Word, int) int         = word.At
	_ func(api.Form, api.Word) []bool = word.Truths
	_ func(api.Form, api.Word) bool   = word.Holds
	_ func(api.Word) api.Word         = word.Least
	_ func(api.Word, api.Word) bool   = word.Same

	_ func(api.Auto, api.Word) bool        = auto.Accepts
	_ func(api.Auto) bool                  = auto.Empty
	_ func(api.Form) (api.Auto, api.Errno) = auto.Of

	_ func(string) (api.Model, api.Errno, int) = model.Parse
	_ func(api.Model) bool                     = model.Good
	_ func(api.Model) string                   = model.Print
	_ func(api.Model, api.Word) bool           = model.Path
	_ func(api.Model, api.Word) api.Word       = model.Trace

	_ func(api.Model, api.Auto) (api.Word, bool, api.Errno) = find.Find
	_ func(api.Model, api.Auto) (bool, api.Errno)           = find.All

	_ func(api.Model, api.Form) (api.Word, bool, api.Errno) = check.Check
	_ func(api.Form) (api.Word, bool, api.Errno)            = check.Sat
	_ func(api.Form, api.Form) (api.Word, bool, api.Errno)  = check.Apart

	_ func(api.Model, api.Form, []api.Entry) bool              = proof.Valid
	_ func(api.Model, api.Form) ([]api.Entry, bool, api.Errno) = proof.Prove

	_ func() *vigil.Session                         = vigil.New
	_ func(*vigil.Session, string) string           = (*vigil.Session).Line
	_ func([][]string, int) ([][]string, api.Errno) = vigil.Many
)
