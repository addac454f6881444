package tokens

import (
	"strconv"
	"strings"
	"testing"

	"newel/api"
)

var kindNames = [...]string{"Name", "Key", "Op", "Mark", "Int", "Long", "Char", "String", "Start", "Part", "End", "Newline", "Indent", "Outdent", "Stop"}

// listing writes kinds and texts: Name:x Int:1 Newline: .. .
func listing(l []Token) string {
	var words []string
	for _, t := range l {
		words = append(words, kindNames[t.Kind]+":"+t.Text)
	}
	return strings.Join(words, " ")
}

// brief writes texts, and the kinds of tokens without a text.
func brief(l []Token) string {
	var words []string
	for _, t := range l {
		if t.Text == "" {
			words = append(words, kindNames[t.Kind])
		} else {
			words = append(words, t.Text)
		}
	}
	return strings.Join(words, " ")
}

// places writes At/Line/Col of each token.
func places(l []Token) string {
	var words []string
	for _, t := range l {
		words = append(words, strconv.Itoa(t.At)+"/"+strconv.Itoa(t.Line)+"/"+strconv.Itoa(t.Col))
	}
	return strings.Join(words, " ")
}

// raw returns the tokens of a text that has no fault.
func raw(t *testing.T, text string) []Token {
	t.Helper()
	l, f := Raw(text)
	if f != (api.Fault{}) {
		t.Fatalf("Raw(%q): fault %v", text, f)
	}
	return l
}

// scan returns the tokens, with layout, of a text that has no fault.
func scan(t *testing.T, text string) []Token {
	t.Helper()
	l, f := Scan(text)
	if f != (api.Fault{}) {
		t.Fatalf("Scan(%q): fault %v", text, f)
	}
	return l
}

// wantFault checks that a function gives a fault and nothing else.
func wantFault(t *testing.T, what string, l []Token, got, want api.Fault) {
	t.Helper()
	if got != want || len(l) != 0 {
		t.Errorf("%.80s: %d tokens, fault %v; want %v", what, len(l), got, want)
	}
}

// dice are numbers that look random and are the same in each run.
type dice uint64

// roll returns a number from 0 to n - 1.
func (d *dice) roll(n int) int {
	*d = *d*6364136223846793005 + 1442695040888963407
	return int(uint64(*d)>>33) % n
}

func (d *dice) pick(words []string) string { return words[d.roll(len(words))] }
