package tests

import (
	"slices"
	"strings"
	"testing"

	"loop.example/intersectiontypes/impl"
)

// typeTexts are the types that the promises are tested with.
func typeTexts() []string {
	list := append(inOrder(), typeWith(impl.TypeMax), typeWith(impl.TypeMax-1), typeWith(impl.TypeMax-2), deepRight(99), deepLeft(66))
	return append(list, textsOf(someShapes())...)
}

// bagTexts are the bags that the promises are tested with.
func bagTexts() []string {
	list := []string{bagTextOf(inOrder()), bagWith(impl.TypeMax), bagWith(impl.TypeMax - 1), "(m " + typeWith(impl.TypeMax-1) + ")", "(m " + deepLeft(66) + ")"}
	for _, bag := range someBags() {
		list = append(list, bagText(bag))
	}
	return list
}

// allTexts are types, bags, and texts that are none.
func allTexts() []string {
	return slices.Concat(typeTexts(), bagTexts(), noTypes())
}

func typesOfBag(t *testing.T, s string) []string {
	t.Helper()
	types, ok := impl.BagTypes(s)
	if !ok {
		t.Fatalf("BagTypes of %.60q fails", s)
	}
	return types
}

// Each function tells the same of a type as the model does.
func TestTypeModel(t *testing.T) {
	for _, m := range someShapes() {
		s := m.text()
		if !impl.TypeValid(s) || impl.BagValid(s) {
			t.Errorf("%q is no type, or a bag", s)
		}
		if n := impl.TypeSize(s); n != m.atoms() {
			t.Errorf("TypeSize of %q returned %d", s, n)
		}
		if impl.TypeTight(s) != (s == "n" || s == "l") {
			t.Errorf("TypeTight of %q is %v", s, impl.TypeTight(s))
		}
		bag, to, ok := impl.TypeParts(s)
		if m.letter != "" {
			if ok || bag != "" || to != "" {
				t.Errorf("TypeParts of %q returned %q, %q, %v", s, bag, to, ok)
			}
			continue
		}
		if !ok || bag != bagText(m.from) || to != m.to.text() {
			t.Errorf("TypeParts of %q returned %q, %q, %v", s, bag, to, ok)
		}
		if made, ok := impl.TypeMake(bagText(m.from), m.to.text()); !ok || made != s {
			t.Errorf("TypeMake returned %q for %q, %v", made, s, ok)
		}
	}
}

func TestBagModel(t *testing.T) {
	for _, m := range someBags() {
		s := bagText(m)
		if !impl.BagValid(s) || impl.TypeValid(s) {
			t.Errorf("%q is no bag, or a type", s)
		}
		if n := impl.TypeSize(s); n != bagAtoms(m) {
			t.Errorf("TypeSize of %q returned %d", s, n)
		}
		if bag, ok := impl.BagOf(textsOf(m)); !ok || bag != s {
			t.Errorf("BagOf of %q returned %q, %v", textsOf(m), bag, ok)
		}
		if types := typesOfBag(t, s); !slices.Equal(types, sortedTexts(m)) {
			t.Errorf("BagTypes of %q returned %q", s, types)
		}
		if want := countOf(m, "n")+countOf(m, "l") == len(m); impl.TypeTight(s) != want {
			t.Errorf("TypeTight of %q is %v", s, !want)
		}
		for _, a := range fewShapes() {
			if n := impl.BagCount(s, a.text()); n != countOf(m, a.text()) {
				t.Errorf("BagCount in %q of %q returned %d", s, a.text(), n)
			}
		}
	}
}

func TestBagSumModel(t *testing.T) {
	for _, a := range someBags() {
		for _, b := range fewBags() {
			want := bagText(slices.Concat(a, b))
			if got, ok := impl.BagSum(bagText(a), bagText(b)); !ok || got != want {
				t.Errorf("BagSum of %q and %q returned %q, %v", bagText(a), bagText(b), got, ok)
			}
		}
	}
}

// All texts that differ in a byte from a type or a bag: they are types and bags if the model makes them.
func TestTypeEdits(t *testing.T) {
	letters := []string{"a", "b", "m"}
	types, bags := map[string]bool{}, map[string]bool{}
	for atoms := 1; atoms <= 7; atoms++ {
		for _, a := range shapesOf(atoms, letters) {
			types[a.text()] = true
		}
		for _, bag := range bagsOf(atoms, letters) {
			bags[bagText(bag)] = true
		}
	}
	for _, list := range []map[string]bool{types, bags} {
		for s := range list {
			if len(s) > 25 {
				continue
			}
			for _, edit := range editsOf(s, "() >abm1") {
				if impl.TypeValid(edit) != types[edit] || impl.BagValid(edit) != bags[edit] {
					t.Fatalf("%q: TypeValid %v, BagValid %v", edit, impl.TypeValid(edit), impl.BagValid(edit))
				}
			}
		}
	}
}

// editsOf lists texts with a byte more, less or replaced.
func editsOf(s string, signs string) []string {
	var list []string
	for i := range len(s) + 1 {
		for _, sign := range strings.Split(signs, "") {
			list = append(list, s[:i]+sign+s[i:])
			if i < len(s) {
				list = append(list, s[:i]+sign+s[i+1:])
			}
		}
		if i < len(s) {
			list = append(list, s[:i]+s[i+1:])
		}
	}
	return list
}

func TestPromise19(t *testing.T) {
	for _, s := range allTexts() {
		if !impl.TypeValid(s) {
			continue
		}
		_, _, ok := impl.TypeParts(s)
		letter := len(s) == 1 && 'a' <= s[0] && s[0] <= 'z'
		if ok == letter {
			t.Errorf("TypeParts of %.60q: %v", s, ok)
		}
		if impl.BagValid(s) {
			t.Errorf("%.60q is a type and a bag", s)
		}
		if n := impl.TypeSize(s); n < 1 || n > impl.TypeMax {
			t.Errorf("TypeSize of %.60q is %d", s, n)
		}
	}
}

func TestPromise20(t *testing.T) {
	for _, s := range allTexts() {
		if !impl.BagValid(s) {
			continue
		}
		if bag, ok := impl.BagOf(typesOfBag(t, s)); !ok || bag != s {
			t.Errorf("BagOf of BagTypes of %.60q is %.60q, %v", s, bag, ok)
		}
		if impl.TypeValid(s) {
			t.Errorf("%.60q is a bag and a type", s)
		}
	}
}

// promiseLists are lists for BagOf: all short ones of a few types, the types of bags, and longer ones.
func promiseLists() [][]string {
	few := []string{"(> (m a) a)", "(> (m) a)", "a", "n", "z"}
	list := [][]string{nil, inOrder(), slices.Concat(inOrder(), few), slices.Repeat([]string{"b", "a"}, 99), slices.Repeat([]string{"b", "a"}, 100)}
	for _, a := range few {
		list = append(list, []string{a})
		for _, b := range few {
			list = append(list, []string{a, b})
			for _, c := range few {
				list = append(list, []string{a, b, c}, []string{a, b, c, a, b}, []string{c, c, a, b, b, c})
			}
		}
	}
	for _, bag := range someBags() {
		list = append(list, textsOf(bag))
	}
	return list
}

func TestPromise21(t *testing.T) {
	for _, list := range promiseLists() {
		bag, ok := impl.BagOf(list)
		turned := slices.Clone(list)
		slices.Reverse(turned)
		if other, okOther := impl.BagOf(turned); other != bag || okOther != ok {
			t.Errorf("BagOf of %.60q turned round is %.60q", list, other)
		}
		if !ok {
			continue
		}
		if len(typesOfBag(t, bag)) != len(list) {
			t.Errorf("BagOf of %.60q is %.60q", list, bag)
		}
		for _, s := range list {
			times := 0
			for _, other := range list {
				if other == s {
					times++
				}
			}
			if n := impl.BagCount(bag, s); n != times {
				t.Errorf("BagOf of %.60q has %d times %q", list, n, s)
			}
		}
	}
}

func TestPromise22(t *testing.T) {
	for _, s := range allTexts() {
		types, ok := impl.BagTypes(s)
		if !ok {
			continue
		}
		for _, a := range types {
			if !impl.TypeValid(a) {
				t.Errorf("BagTypes of %.60q has %.60q", s, a)
			}
		}
		if n := impl.TypeSize(s); n != 1+sizeOfAll(types) {
			t.Errorf("TypeSize of %.60q is %d, of its types together %d", s, n, sizeOfAll(types))
		}
	}
}

func TestPromise23(t *testing.T) {
	for _, a := range bagTexts() {
		if sum, ok := impl.BagSum(a, "(m)"); !ok || sum != a {
			t.Errorf("BagSum of %.60q and the empty bag is %.60q, %v", a, sum, ok)
		}
		for _, m := range fewBags() {
			b := bagText(m)
			sum, ok := impl.BagSum(a, b)
			if other, okOther := impl.BagSum(b, a); other != sum || okOther != ok {
				t.Errorf("BagSum of %.60q and %q exchanged is %.60q", a, b, other)
			}
			if !ok {
				continue
			}
			for _, s := range slices.Concat(typesOfBag(t, a), typesOfBag(t, b), []string{"z", "(> (m) b)"}) {
				if n := impl.BagCount(sum, s); n != impl.BagCount(a, s)+impl.BagCount(b, s) {
					t.Errorf("BagSum of %.60q and %q has %d times %q", a, b, n, s)
				}
			}
		}
	}
}

func TestPromise24(t *testing.T) {
	for _, bag := range bagTexts() {
		types := typesOfBag(t, bag)
		for _, s := range append(textsOf(fewShapes()), inOrder()...) {
			n := impl.BagCount(bag, s)
			if n == -1 || n > 0 != slices.Contains(types, s) {
				t.Errorf("BagCount in %.60q of %q is %d", bag, s, n)
			}
			if sum, ok := impl.BagSum(bag, "(m "+s+")"); ok && impl.BagCount(sum, s) != n+1 {
				t.Errorf("BagCount in %.60q of %q is %d, and with one more %d", bag, s, n, impl.BagCount(sum, s))
			}
		}
	}
}

func TestPromise25(t *testing.T) {
	for _, bag := range bagTexts() {
		for _, s := range append(textsOf(fewShapes()), inOrder()...) {
			made, ok := impl.TypeMake(bag, s)
			if !ok {
				continue
			}
			if from, to, ok := impl.TypeParts(made); !ok || from != bag || to != s {
				t.Errorf("TypeParts of TypeMake of %.60q and %q are %.60q and %q", bag, s, from, to)
			}
			if impl.TypeTight(made) {
				t.Errorf("%.60q is tight", made)
			}
		}
	}
}

func TestPromise26(t *testing.T) {
	for _, s := range allTexts() {
		bag, to, ok := impl.TypeParts(s)
		if !ok {
			continue
		}
		if made, ok := impl.TypeMake(bag, to); !ok || made != s {
			t.Errorf("TypeMake of TypeParts of %.60q is %.60q, %v", s, made, ok)
		}
		if n := impl.TypeSize(s); n != 1+impl.TypeSize(bag)+impl.TypeSize(to) {
			t.Errorf("TypeSize of %.60q is %d", s, n)
		}
	}
}

func TestPromise27(t *testing.T) {
	for _, s := range allTexts() {
		types, isBag := impl.BagTypes(s)
		want := s == "n" || s == "l" || isBag
		for _, a := range types {
			want = want && impl.TypeTight(a)
		}
		if impl.TypeTight(s) != want {
			t.Errorf("TypeTight of %.60q is %v", s, !want)
		}
	}
}

func TestPromise28(t *testing.T) {
	for _, s := range allTexts() {
		n := impl.TypeSize(s)
		if n != -1 != (impl.TypeValid(s) || impl.BagValid(s)) {
			t.Errorf("TypeSize of %.60q is %d", s, n)
		}
		bag, ok := impl.BagOf([]string{s})
		if ok != (impl.TypeValid(s) && n < impl.TypeMax) || ok && impl.TypeSize(bag) != n+1 {
			t.Errorf("TypeSize of %.60q is %d, and of a bag of it alone %d", s, n, impl.TypeSize(bag))
		}
	}
}
