package impl

import (
	"strings"
	"testing"
)

// No term is long or deep enough to come to the limits of a text, since TermMax is reached first.
// So they are tested where texts are read.

func TestReadTextBytes(t *testing.T) {
	for _, c := range []struct {
		text string
		want bool
	}{
		{strings.Repeat("a", TextMax), true},
		{strings.Repeat("a", TextMax+1), false},
		{"(" + strings.Repeat("a ", TextMax/2-2) + "aa)", true},
		{"(" + strings.Repeat("a ", TextMax/2-2) + "aaa)", false},
	} {
		if _, ok := readText(c.text); ok != c.want {
			t.Errorf("readText of %d bytes returned %v", len(c.text), ok)
		}
	}
}

func TestReadTextNest(t *testing.T) {
	for _, c := range []struct {
		nest int
		want bool
	}{{1, true}, {299, true}, {300, true}, {301, false}, {302, false}, {3999, false}} {
		text := strings.Repeat("(", c.nest) + "a" + strings.Repeat(")", c.nest)
		if _, ok := readText(text); ok != c.want {
			t.Errorf("readText of %d parentheses within each other returned %v", c.nest, ok)
		}
		behind := "(a " + text[1:len(text)-1] + " " + text[1:]
		if _, ok := readText(behind); ok != c.want {
			t.Errorf("readText of twice %d parentheses within each other returned %v", c.nest, ok)
		}
	}
	beside := "(" + strings.Repeat("(a) ", 400) + "a)"
	if _, ok := readText(beside); !ok {
		t.Errorf("readText counts parentheses that are beside each other")
	}
}

func TestReadTextParts(t *testing.T) {
	for _, s := range []string{"a", "ab", "7", ">", "a7>", "(a)", "((a))", "(a b)", "(> (m) a)", "(a (b) c)"} {
		p, ok := readText(s)
		if !ok || writePart(p) != s {
			t.Errorf("readText of %q returned %v", s, ok)
		}
	}
	for _, s := range []string{"", " ", "()", "(", ")", "a b", " a", "a ", "( a)", "(a )", "(a  b)", "(a(b))", "((a)b)",
		"(a))", "((a)", "(a)b", "(a)(b)", "(a ())", "A", "(a\tb)", "(a\nb)", "a-", "a<", "\x00", "é", "(a b", "`", "{", "/", ":"} {
		if p, ok := readText(s); ok || p != nil {
			t.Errorf("readText of %q succeeded", s)
		}
	}
}

func writePart(p *part) string {
	if p.parts == nil {
		return p.atom
	}
	var list []string
	for _, q := range p.parts {
		list = append(list, writePart(q))
	}
	return "(" + strings.Join(list, " ") + ")"
}
