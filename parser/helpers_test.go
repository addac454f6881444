package parser

import (
	"strconv"
	"strings"
	"testing"

	"newel/api"
	"newel/syntax"
)

// placesOf writes the At of the nodes of a tree, in preorder.
func placesOf(n syntax.Node) string {
	words := []string{syntax.Name(n.Kind) + "@" + strconv.Itoa(n.At)}
	for _, k := range n.Kids {
		words = append(words, placesOf(k))
	}
	return strings.Join(words, " ")
}

// wantTree checks the tree of a text.
func wantTree(t *testing.T, parse func(string) (syntax.Node, api.Fault), text, want string) {
	t.Helper()
	n, fault := parse(text)
	got, _ := syntax.Text(n)
	if fault != (api.Fault{}) || got != want {
		t.Errorf("%s\n is %s, fault %v\nwant %s", text, got, fault, want)
	}
}

// wantFault checks the fault of a text, and that there is no tree.
func wantFault(t *testing.T, parse func(string) (syntax.Node, api.Fault), text string, at int, code api.Errno) {
	t.Helper()
	n, fault := parse(text)
	if want := (api.Fault{At: at, Code: code}); fault != want {
		t.Errorf("%.300s\n is fault %v; want %v", text, fault, want)
	}
	if !syntax.Equal(n, syntax.Node{}) || n.At != 0 {
		t.Errorf("%.300s: a tree with a fault", text)
	}
}

// dice are numbers that look random and are the same in each run.
type dice uint64

// roll returns a number from 0 to n - 1.
func (d *dice) roll(n int) int {
	*d = *d*6364136223846793005 + 1442695040888963407
	return int(uint64(*d)>>33) % n
}

func (d *dice) pick(words ...string) string { return words[d.roll(len(words))] }
