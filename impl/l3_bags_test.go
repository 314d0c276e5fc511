package impl

import (
	"strings"
	"testing"
)

// No type or bag is long or deep enough to come to the limits of a text, since TypeMax is reached first.
// So what has too many atoms is told apart here from what is no text. A type or a bag has an odd number of bytes.
func TestTypesAtTheLimitsOfTexts(t *testing.T) {
	for _, c := range []struct {
		name, text string
		want       bool
	}{
		{"a bag of 7999 bytes", "(m" + strings.Repeat(" a", TextMax/2-2) + ")", true},
		{"a bag of 8001 bytes", "(m" + strings.Repeat(" a", TextMax/2-1) + ")", false},
		{"300 parentheses within each other", strings.Repeat("(> (m) ", 299) + "a" + strings.Repeat(")", 299), true},
		{"301 parentheses within each other", strings.Repeat("(> (m) ", 300) + "a" + strings.Repeat(")", 300), false},
		{"300 parentheses in bags", strings.Repeat("(> (m ", 150) + "a" + strings.Repeat(") a)", 150), true},
		{"302 parentheses in bags", strings.Repeat("(> (m ", 151) + "a" + strings.Repeat(") a)", 151), false},
	} {
		p, ok := readText(c.text)
		if ok != c.want {
			t.Errorf("readText of %s returned %v", c.name, ok)
		}
		if ok && !isTypeOrBag(p) {
			t.Errorf("%s is no type and no bag", c.name)
		}
		if TypeValid(c.text) || BagValid(c.text) {
			t.Errorf("%s is valid", c.name)
		}
	}
}

func isTypeOrBag(p *part) bool {
	_, isType := typeOf(p)
	_, isBag := bagOf(p)
	return isType || isBag
}

func TestBagTake(t *testing.T) {
	b := bag{"a": 2, "b": 1}
	for _, c := range []struct {
		take typeText
		ok   bool
		left string
	}{
		{"c", false, "(m a a b)"}, {"a", true, "(m a b)"}, {"b", true, "(m a)"}, {"b", false, "(m a)"}, {"a", true, "(m)"}, {"a", false, "(m)"},
	} {
		if ok := b.take(c.take); ok != c.ok || b.text() != c.left {
			t.Errorf("taking %q returned %v and left %q", c.take, ok, b.text())
		}
	}
	if len(b) != 0 {
		t.Errorf("%d types are in an empty bag", len(b))
	}
}

// What is written or listed is still in the bag.
func TestBagWritten(t *testing.T) {
	b := bag{"(> (m) a)": 3, "a": 2}
	for range 2 {
		if s := b.text(); s != "(m (> (m) a) (> (m) a) (> (m) a) a a)" || len(b.list()) != 5 || b.countAtoms() != 12 {
			t.Errorf("the bag is written as %q", s)
		}
	}
}
