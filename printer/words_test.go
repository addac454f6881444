package printer

import (
	"slices"
	"strings"
	"testing"

	"newel/api"
	"newel/tokens"
)

// P4.3: the words of texts.
func TestWords(t *testing.T) {
	for _, c := range []struct {
		text string
		want []string
	}{
		{"", nil},
		{" /* a */ // b\n\n", nil},
		{"val x = 1 // one\n", []string{"val", "x", "=", "1"}},
		{"a+b.c(d)", []string{"a", "+", "b", ".", "c", "(", "d", ")"}},
		{"}", nil},
		{"{}'{}${}[]@_;,", []string{"{", "}", "'{", "}", "${", "}", "[", "]", "@", "_", ";", ","}},
		{"1 2L 9223372036854775807L", []string{"1", "2L", "9223372036854775807L"}},
		{`'a' '"' '\'' '\x7b' '\t' '\x00' '$'`, []string{`'a'`, `'"'`, `'\''`, `'\x7b'`, `'\t'`, `'\x00'`, `'$'`}},
		{`"a'\x41\n\$\"$" ""`, []string{`"a'A\n$\"$"`, `""`}},
		{`s"" s"a b"`, []string{`s""`, `s"a b"`}},
		{`f s"a$b\x63 ${d+e}f${ "g" }" h`, []string{"f", `s"a$b\x63 ${ d + e }f${ "g" }"`, "h"}},
		{`s"$this$a"`, []string{`s"$this$a"`}},
		{`s"${t"${u"v"}"}"+w`, []string{`s"${ t"${ u"v" }" }"`, "+", "w"}},
		{"s\"${a\n/* b */ c}\"", []string{`s"${ a c }"`}},
		{"a :: += =>> => <: >: <- -", []string{"a", "::", "+=", "=>>", "=>", "<:", ">:", "<-", "-"}},
	} {
		got, fault := Words(c.text)
		want := api.Fault{}
		if c.text == "}" {
			want = api.Fault{Code: api.ErrSyntax}
		}
		if !slices.Equal(got, c.want) || fault != want {
			t.Errorf("Words(%q) = %q, %v; want %q, %v", c.text, got, fault, c.want, want)
		}
	}
}

// P4.3: the faults of Words.
func TestWordsFaults(t *testing.T) {
	hole := `s"${` + strings.Repeat("a+", 15000) + `a}"`
	for _, c := range []struct {
		text string
		want api.Fault
	}{
		{strings.Repeat("a", api.MaxText+1), api.Fault{Code: api.ErrLimit}},
		{"a \x00", api.Fault{At: 2, Code: api.ErrSyntax}},
		{"a 'b", api.Fault{At: 2, Code: api.ErrSyntax}},
		{"a 01", api.Fault{At: 2, Code: api.ErrSyntax}},
		{"a ( ]", api.Fault{At: 4, Code: api.ErrSyntax}},
		{"a (", api.Fault{At: 2, Code: api.ErrSyntax}},
		{"a 2147483648", api.Fault{At: 2, Code: api.ErrRange}},
		{"a " + strings.Repeat("b", api.MaxName+1), api.Fault{At: 2, Code: api.ErrLimit}},
		{strings.Repeat("(", api.MaxNest+1), api.Fault{At: api.MaxNest, Code: api.ErrDepth}},
		{"a b" + hole, api.Fault{}},
		{"a " + strings.Replace(hole, "a+", strings.Repeat("a+", 2000), 1), api.Fault{Code: api.ErrForm}},
		{hole + hole, api.Fault{}},
	} {
		words, fault := Words(c.text)
		if fault != c.want || fault.Code != api.OK && words != nil {
			t.Errorf("Words(%.60q) = %.60q, %v; want %v", c.text, words, fault, c.want)
		}
	}
}

// P4.3, P4.4: words joined by blanks have the same words, and are those of the
// tokens.
func TestWordsAgain(t *testing.T) {
	pieces := []string{"a", "if", "_", "(", ")", "[", "]", "{", "}", "'{", "${", "1", "2L", "'a'", `'\x7b'`, `"b\"$"`, "+", "::", "=>", "=", ".", ",",
		`s"c"`, `s"$d\x65"`, `s"${f}g"`, `s"${t"$h"}i$this"`, `s"`, "\n", "/* j */", "// k\n", "@", ";"}
	d := dice(3)
	some := 0
	for range 20000 {
		var b strings.Builder
		for range d.roll(12) {
			b.WriteString(d.pick(pieces...))
			b.WriteString(d.pick("", " "))
		}
		words, fault := Words(b.String())
		list, want := tokens.Raw(b.String())
		if fault != want {
			t.Fatalf("%q: fault %v, that of Raw is %v", b.String(), fault, want)
		}
		if fault.Code != api.OK {
			continue
		}
		some++
		if n := outside(list); len(words) != n {
			t.Fatalf("%q: the words %q, but there are %d", b.String(), words, n)
		}
		again, fault := Words(strings.Join(words, " "))
		if !slices.Equal(words, again) || fault != (api.Fault{}) {
			t.Fatalf("%q: the words %q, which have the words %q, fault %v", b.String(), words, again, fault)
		}
	}
	if some < 1000 {
		t.Errorf("just %d texts have words", some)
	}
}

// outside returns how many tokens stand outside of interpolated strings, and
// how many of these.
func outside(list []tokens.Token) int {
	count, depth := 0, 0
	for _, u := range list {
		if u.Kind == tokens.End {
			depth--
		}
		if depth == 0 && u.Kind != tokens.End {
			count++
		}
		if u.Kind == tokens.Start {
			depth++
		}
	}
	return count
}
