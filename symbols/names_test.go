package symbols

import (
	"strings"
	"testing"

	"newel/api"
)

// P6.1: IsName.
func TestIsName(t *testing.T) {
	for _, s := range []string{
		"a", "Z", "_", "$", "a1", "_1", "$1", "x$init", "val", "A_b$9", "+", "=>", "+-*/%<>=!&|^~:?", "::", "=", "//",
		long(64), strings.Repeat("+", 64),
	} {
		if !IsName(s) {
			t.Errorf("%q is no name", s)
		}
	}
	for _, s := range []string{
		"", "1", "1a", "9_", "a+", "+a", "a b", " ", "a.b", "a#", "#", "@", "\\", ".", ",", ";", "(", "[", "{", "'", "\"", "`a`",
		"a-b", "-1", "\x00", "a\n", "\xff", "\u00e4", "a\u00e4", long(65), strings.Repeat("+", 65),
	} {
		if IsName(s) {
			t.Errorf("%q is a name", s)
		}
	}
	// Each byte alone, behind a letter and behind an operator.
	for c := range 256 {
		s := string([]byte{byte(c)})
		letter := c >= 'a' && c <= 'z' || c >= 'A' && c <= 'Z' || c == '_' || c == '$'
		digit := c >= '0' && c <= '9'
		operator := c != 0 && strings.Contains("+-*/%<>=!&|^~:?", s)
		if IsName(s) != (letter || operator) || IsName("x"+s) != (letter || digit) || IsName("+"+s) != operator {
			t.Errorf("names with %q", s)
		}
	}
}

// P6.3: FullName.
func TestFullName(t *testing.T) {
	p := sample()
	for class, want := range []string{"Base", "Tr", "Leaf", "Leaf#", "Leaf#.In", "Leaf#.In.Deep#", "Val", "Home#", "Far"} {
		if got, code := FullName(p, class); got != want || code != api.OK {
			t.Errorf("FullName(%d) = %q, %v, want %q", class, got, code, want)
		}
	}
	for _, class := range outOfRange {
		if got, code := FullName(p, class); got != "" || code != api.ErrRange {
			t.Errorf("FullName(%d) = %q, %v", class, got, code)
		}
	}
	if got, code := FullName(api.Program{}, 0); got != "" || code != api.ErrRange {
		t.Errorf("FullName of the empty program = %q, %v", got, code)
	}
	// An object in a class in an object.
	m := newMaker()
	m.class("A", api.IsObject, 0, 1, top)
	m.class("B", api.IsClass, 0, 2, top)
	m.class("C", api.IsObject, 0, -1, top)
	m.class("+", api.IsTrait, 0, 0, top)
	if got, _ := FullName(m.p, 0); got != "C#.B.A#" {
		t.Errorf("FullName = %q", got)
	}
	if got, _ := FullName(m.p, 3); got != "C#.B.A#.+" {
		t.Errorf("FullName = %q", got)
	}
	// Cycles: on them, and inside of them; an owner that does not exist.
	m = newMaker()
	for i, owner := range []int{1, 2, 1, 3, 9, 4, 3, 6} {
		m.class(digitsOf(i), api.IsClass, 0, owner, top)
	}
	for class, want := range []api.Errno{api.ErrCycle, api.ErrCycle, api.ErrCycle, api.ErrCycle, api.OK, api.OK, api.ErrCycle, api.ErrCycle} {
		got, code := FullName(m.p, class)
		if code != want || code != api.OK && got != "" {
			t.Errorf("FullName(%d) = %q, %v, want %v", class, got, code, want)
		}
	}
	if got, _ := FullName(m.p, 5); got != "aae.aaf" {
		t.Errorf("FullName in a class with an owner that does not exist = %q", got)
	}
	// As many classes as there are, each inside of the one behind it.
	m = newMaker()
	for i := range 4 {
		m.class(digitsOf(i), api.IsClass, 0, i+1, top)
	}
	m.p.Classes[3].Owner = -1
	if got, code := FullName(m.p, 0); got != "aad.aac.aab.aaa" || code != api.OK {
		t.Errorf("FullName of the innermost class = %q, %v", got, code)
	}
}

// P6.4: Text.
func TestText(t *testing.T) {
	const want = `class Base 5 +A
  field x 0
  method m 1 0
  method n 0 2
  type T
  type V
trait Tr 0 -A
  method m 1 0
  type T
class Leaf 34
  field x 16
  field y 256
  method m 16 0
object Leaf# 0
class Leaf#.In 0
object Leaf#.In.Deep# 32
class Val 66
  field v 0
object Home# 0
  field v 640
  method main 0 0
class Far 8
method f 4096 1
`
	p := sample()
	if got, code := Text(p); got != want || code != api.OK {
		t.Errorf("Text = %s, %v", got, code)
	}
	if got, code := Text(api.Program{Main: -1}); got != "" || code != api.OK {
		t.Errorf("Text of the empty program = %q, %v", got, code)
	}
	p.Classes[far].Flags = api.Var
	if got, code := Text(p); got != "" || code != api.ErrInvalid {
		t.Errorf("Text of a wrong program = %q, %v", got, code)
	}
	p.Classes = make([]api.Class, 501)
	if got, code := Text(p); got != "" || code != api.ErrLimit {
		t.Errorf("Text of too many classes = %q, %v", got, code)
	}
	// Lists in another order than the tables; a type parameter of each variance.
	m := newMaker()
	m.method(-1, "g", api.Private, "a", "b")
	m.class("K", api.IsTrait, 0, -1, top)
	m.classParam(0, "X", api.Invariant)
	m.classParam(0, "Y", api.Covariant)
	m.classParam(0, "Z", api.Contravariant)
	m.member(0, "T")
	m.member(0, "U")
	m.method(0, "b", 0)
	m.method(-1, "g", 0)
	m.method(0, "a", 0)
	m.field(0, "d", 0)
	m.field(0, "c", api.Var)
	k := &m.p.Classes[0]
	k.TParams = []int{2, 0, 1}
	k.Fields = []int{1, 0}
	k.Methods = []int{3, 1}
	k.Types = []int{1, 0}
	const other = "trait K 0 -Z X +Y\n  field c 128\n  field d 0\n  method a 0 0\n  method b 0 0\n  type U\n  type T\nmethod g 8 2\nmethod g 0 0\n"
	if got, code := Text(m.p); got != other || code != api.OK {
		t.Errorf("Text = %s, %v", got, code)
	}
}

// P6.4: a text of exactly as many bytes as are permitted, and of one more.
func TestTextLimit(t *testing.T) {
	// A line of a function has 12 bytes and those of the name, a line of a field
	// 11 and those of the name.
	fill := func(bytes int, add func(name string), margin int) {
		for i := 0; bytes > 0; i++ {
			n := min(64, bytes-margin)
			if rest := bytes - margin - n; rest > 0 && rest <= margin+3 {
				n -= margin + 3
			}
			add(digitsOf(i) + long(n-3))
			bytes -= margin + n
		}
	}
	for _, more := range []int{0, 1, 2, 70, 5000} {
		for _, fields := range []bool{false, true} {
			m := newMaker()
			outer := -1
			for i := range 32 {
				outer = m.class(digitsOf(i)+long(61), api.IsClass, 0, outer, top)
			}
			w := &writer{p: m.p}
			for i := range m.p.Classes {
				w.class(i)
			}
			rest := api.MaxText - w.b.Len() + more
			if fields {
				fill(rest, func(name string) { m.field(3, name, 0) }, 11)
			} else {
				fill(rest, func(name string) { m.method(-1, name, 0) }, 12)
			}
			wantFault(t, "a long text", m.p, Fault{})
			s, code := Text(m.p)
			if more == 0 && (len(s) != api.MaxText || code != api.OK) || more > 0 && (s != "" || code != api.ErrLimit) {
				t.Errorf("%d bytes more, fields %v: %d bytes, %v", more, fields, len(s), code)
			}
		}
	}
	// Classes alone, which are far more.
	m := newMaker()
	for i := range api.MaxTable {
		m.class(digitsOf(i)+long(61), api.IsClass, 0, i-1, top)
	}
	wantFault(t, "nested classes", m.p, Fault{})
	if s, code := Text(m.p); s != "" || code != api.ErrLimit {
		t.Errorf("Text of nested classes: %d bytes, %v", len(s), code)
	}
}
