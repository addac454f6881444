package parser

import (
	"testing"

	"newel/api"
	"newel/syntax"
)

// row is a text and the text form of its tree.
type row struct {
	parse      func(string) (syntax.Node, api.Fault)
	text, want string
}

func wantRows(t *testing.T, rows []row) {
	t.Helper()
	for _, r := range rows {
		wantTree(t, r.parse, r.text, r.want)
	}
}
