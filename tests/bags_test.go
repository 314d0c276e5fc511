package tests

import (
	"slices"
	"strings"
	"testing"

	"loop.example/intersectiontypes/impl"
)

// noTypes are texts that are neither types nor bags.
func noTypes() []string {
	list := []string{
		"", " ", "\n", "\x00", "\xff", "é", "()", "(", ")", "((", "))", ")a(", "(m", "m)", "(m))", "((m)", "(m)(m)", "(m) (m)", "(m).",
		"A", "N", "aa", "ab", "mm", "nl", "ln", "a1", "n1", "1", "0", "9", "12", ">", ">>", "a>", ">a", "m>", "{", "`", "-", "_", "/", ":",
		"a ", " a", "a\n", "a b", "a)", "(a", "(a)", "((a))", "(n)", "(l)", "(1)", "(>)", "((m))", "((>))", "(()m)", "(m())",
		"(m aa)", "(m m1)", "(m 1)", "(m >)", "(m (a))", "(m (m))", "(m (m a))", "(m a (m))", "(m (m) a)", "(m ())", "(m A)", "(M a)", "(m (>))",
		"(1 a)", "(a a)", "(a m)", "(n l)", "(mm a)", "(m1 a)", "(m> a)", "((m) a)", "((m a) b)", "((> (m) a) a)", "(a (m) a)", "(1 (m) a)", "(m (m) (m))", "(mm)", "(> m)",
		"(> )", "(> (m))", "(> a)", "(> (m a))", "(> a b)", "(> m a)", "(> (a) b)", "(> (m) a b)", "(> (m) a (m))", "(> (m) (m) a)", "(> (m) (m))", "(> (m) (m a))", "(> a (m))",
		"(> (m) 1)", "(> (m) >)", "(> (m) ab)", "(> (m) (a))", "(> (m) ())", "(> () a)", "(> 1 a)", "(> > a)", "(> (>) a)", "(> (> (m) a) a)", "(> (m 1) a)", "(> (m (m)) a)",
		"(>> (m) a)", "(m> (m) a)", "((>) (m) a)", "((m) > a)", "(< (m) a)", "(- (m) a)", "((m) (m) a)", "(a > (m))",
		"(m b a)", "(m a b a)", "(m a a b a)", "(m b a b)", "(m n l)", "(m a (> (m) a))", "(m (> (m) a) a (> (m) a))", "(m a (> (m) a) a)",
		"(m (> (m) b) (> (m) a))", "(m (> (m) a) (> (m a) a))", "(m (> (m) a) (> (m a) a) (> (m) a))", "(m (> (m a) a) (> (m) a) (> (m a) a))",
		"(> (m b a) c)", "(> (m) (> (m b a) c))", "(> (m (> (m b a) c)) c)", "(m (> (m b a) c))", "(> (m a (> (m) a)) a)",
		"(m  a)", "( m a)", "(m a )", "( m)", "(m )", " (m a)", "(m a) ", "(m\ta)", "(m a\nb)", "(m\u00a0a)", "(m(> (m) a))", "(m (> (m) a)a)", "(m a(> (m) a))",
		"(>  (m) a)", "(> (m)  a)", "( > (m) a)", "(> (m) a )", " (> (m) a)", "(> (m) a) ", "(>(m) a)", "(> (m)a)", "(> (m) a", "> (m) a)", "(> (m) a))", "((> (m) a)", "(> (m) a) b", "(> (m) a)(m)",
		"x1", "(lam x x)", "(app x y)", "(lam m m)", "om",
	}
	return append(list, noTypesForSize()...)
}

// noTypesForSize would be types or bags without the limits, or come to the limits of a text.
func noTypesForSize() []string {
	return []string{
		typeWith(impl.TypeMax + 1), bagWith(impl.TypeMax + 1), typeWith(300), bagWith(300), typeWith(3000), bagWith(3000),
		deepRight(100), deepLeft(67), "(m " + typeWith(impl.TypeMax) + ")", "(> (m) " + typeWith(impl.TypeMax-1) + ")",
		deepRight(299), deepRight(300), deepLeft(149), deepLeft(150),
		strings.Repeat("(", 300) + "a" + strings.Repeat(")", 300), strings.Repeat("(", 301) + "a" + strings.Repeat(")", 301),
		strings.Repeat("(m ", 300) + "a" + strings.Repeat(")", 300), strings.Repeat("(m ", 301) + "a" + strings.Repeat(")", 301),
		bagWith(impl.TextMax/2 - 1), bagWith(impl.TextMax / 2), "(m" + strings.Repeat(" a", impl.TextMax/2-2) + "  )",
		strings.Repeat("a", impl.TextMax), strings.Repeat("a", impl.TextMax+1), "a" + strings.Repeat(" ", impl.TextMax),
		strings.Repeat("(", impl.TextMax), strings.Repeat("(m ", 100*impl.TextMax), strings.Repeat("(> (m ", 100*impl.TextMax), bagWith(100 * impl.TextMax),
	}
}

// bagWith is a bag with so many atoms.
func bagWith(atoms int) string {
	return "(m" + strings.Repeat(" a", atoms-1) + ")"
}

// typeWith is a type with so many atoms.
func typeWith(atoms int) string {
	return "(> " + bagWith(atoms-2) + " b)"
}

// deepRight is a type with 2n+1 atoms, and n+1 parentheses within each other.
func deepRight(n int) string {
	return strings.Repeat("(> (m) ", n) + "a" + strings.Repeat(")", n)
}

// deepLeft is a type with 3n+1 atoms, and 2n parentheses within each other.
func deepLeft(n int) string {
	return strings.Repeat("(> (m ", n) + "a" + strings.Repeat(") a)", n)
}

// inOrder are types, each one ahead of the next one: at the first byte that differs there is a space, `(`, `)` or a letter.
func inOrder() []string {
	return []string{
		"(> (m (> (m a) a) a) a)", "(> (m (> (m a) a)) a)", "(> (m (> (m) a) a) a)", "(> (m (> (m) a)) a)",
		"(> (m a a) a)", "(> (m a b) a)", "(> (m a) (> (m) a))", "(> (m a) a)", "(> (m a) b)", "(> (m b) a)",
		"(> (m) (> (m a) a))", "(> (m) (> (m) a))", "(> (m) a)", "(> (m) b)", "a", "b", "l", "m", "n", "z",
	}
}

func bagTextOf(types []string) string {
	return strings.Join(append([]string{"(m"}, types...), " ") + ")"
}

func TestTypeValid(t *testing.T) {
	for s, want := range map[string]int{
		"a": 1, "m": 1, "n": 1, "l": 1, "z": 1, "(> (m) a)": 3, "(> (m a) b)": 4, "(> (m m) m)": 4, "(> (m a a b) a)": 6,
		"(> (m) (> (m) a))": 5, "(> (m (> (m) a)) a)": 6, "(> (m (> (m (> (m) a) b) c) m) (> (m l n) l))": 15,
	} {
		if !impl.TypeValid(s) || impl.BagValid(s) || impl.TypeSize(s) != want {
			t.Errorf("%q: TypeValid %v, BagValid %v, TypeSize %d", s, impl.TypeValid(s), impl.BagValid(s), impl.TypeSize(s))
		}
	}
}

func TestBagValid(t *testing.T) {
	for s, want := range map[string]int{
		"(m)": 1, "(m a)": 2, "(m m)": 2, "(m m m)": 3, "(m a a a b)": 5, "(m (> (m) a))": 4, "(m (> (m) a) (> (m) a) a)": 8, "(m (> (m (> (m a) a)) a))": 8, "(m l l n)": 4,
	} {
		if !impl.BagValid(s) || impl.TypeValid(s) || impl.TypeSize(s) != want {
			t.Errorf("%q: BagValid %v, TypeValid %v, TypeSize %d", s, impl.BagValid(s), impl.TypeValid(s), impl.TypeSize(s))
		}
	}
}

// A letter is just one small letter.
func TestTypeLetters(t *testing.T) {
	for b := range 256 {
		s := string([]byte{byte(b)})
		want := 'a' <= b && b <= 'z'
		for _, text := range []string{s, "(> (m) " + s + ")", "(> (m " + s + ") a)"} {
			if impl.TypeValid(text) != want {
				t.Errorf("TypeValid of %q is %v", text, !want)
			}
		}
		if impl.BagValid("(m "+s+")") != want {
			t.Errorf("BagValid of a bag of %q is %v", s, !want)
		}
		if impl.BagValid("("+s+")") != (s == "m") || impl.BagValid("("+s+" a)") != (s == "m") || impl.TypeValid("("+s+" (m) a)") != (s == ">") {
			t.Errorf("%q at the head of a list: %v, %v, %v", s, impl.BagValid("("+s+")"), impl.BagValid("("+s+" a)"), impl.TypeValid("("+s+" (m) a)"))
		}
		if two := s + "a"; impl.TypeValid(two) || impl.TypeValid("a"+s) || impl.BagValid("(m "+two+")") || impl.TypeValid("(> (m) "+two+")") {
			t.Errorf("%q is a letter", two)
		}
	}
}

func TestTypeInvalid(t *testing.T) {
	for _, s := range noTypes() {
		checkNoType(t, s)
		checkNoBag(t, s)
		if n := impl.TypeSize(s); n != -1 || impl.TypeTight(s) {
			t.Errorf("%.40q: TypeSize %d, TypeTight %v", s, n, impl.TypeTight(s))
		}
	}
}

// A bag is no type, and a type is no bag.
func TestTypeOrBag(t *testing.T) {
	for _, s := range []string{"(m)", "(m a)", "(m m)", "(m l n)", "(m (> (m) a))", "(m a a)", bagWith(impl.TypeMax)} {
		checkNoType(t, s)
	}
	for _, s := range []string{"a", "m", "n", "(> (m) a)", "(> (m m) m)", typeWith(impl.TypeMax)} {
		checkNoBag(t, s)
	}
}

// checkNoType asks for the text where a type is asked.
func checkNoType(t *testing.T, s string) {
	t.Helper()
	if impl.TypeValid(s) {
		t.Errorf("TypeValid of %.40q is true", s)
	}
	for _, list := range [][]string{{s}, {s, "a"}, {"a", s}, {"a", "b", s, "c"}} {
		if got, ok := impl.BagOf(list); ok || got != "" {
			t.Errorf("BagOf of %.40q returned %q, %v", list, got, ok)
		}
	}
	for _, bag := range []string{"(m)", "(m a)", "a", ""} {
		if n := impl.BagCount(bag, s); n != -1 {
			t.Errorf("BagCount in %q of %.40q returned %d", bag, s, n)
		}
		if got, ok := impl.TypeMake(bag, s); ok || got != "" {
			t.Errorf("TypeMake of %q and %.40q returned %q, %v", bag, s, got, ok)
		}
	}
	if bag, to, ok := impl.TypeParts(s); ok || bag != "" || to != "" {
		t.Errorf("TypeParts of %.40q returned %q, %q, %v", s, bag, to, ok)
	}
}

// checkNoBag asks for the text where a bag is asked.
func checkNoBag(t *testing.T, s string) {
	t.Helper()
	if impl.BagValid(s) {
		t.Errorf("BagValid of %.40q is true", s)
	}
	if got, ok := impl.BagTypes(s); ok || len(got) != 0 {
		t.Errorf("BagTypes of %.40q returned %q, %v", s, got, ok)
	}
	for _, other := range []string{"(m)", "(m a)", "a", "", s} {
		for _, pair := range [][2]string{{s, other}, {other, s}} {
			if got, ok := impl.BagSum(pair[0], pair[1]); ok || got != "" {
				t.Errorf("BagSum of %.40q returned %q, %v", pair, got, ok)
			}
		}
	}
	for _, to := range []string{"a", "(> (m) a)", "(m)", ""} {
		if n := impl.BagCount(s, to); n != -1 {
			t.Errorf("BagCount in %.40q of %q returned %d", s, to, n)
		}
		if got, ok := impl.TypeMake(s, to); ok || got != "" {
			t.Errorf("TypeMake of %.40q and %q returned %q, %v", s, to, got, ok)
		}
	}
}

// Types that are equal, and types that are not.
func TestBagOf(t *testing.T) {
	for _, c := range []struct {
		list []string
		want string
	}{
		{nil, "(m)"},
		{[]string{}, "(m)"},
		{[]string{"a"}, "(m a)"},
		{[]string{"m"}, "(m m)"},
		{[]string{"a", "a"}, "(m a a)"},
		{[]string{"a", "a", "a", "a"}, "(m a a a a)"},
		{[]string{"b", "a"}, "(m a b)"},
		{[]string{"b", "a", "b"}, "(m a b b)"},
		{[]string{"a", "b", "a", "c", "a", "b"}, "(m a a a b b c)"},
		{[]string{"n", "m", "l", "m"}, "(m l m m n)"},
		{[]string{"a", "(> (m) a)"}, "(m (> (m) a) a)"},
		{[]string{"a", "(> (m) a)", "a", "(> (m) a)"}, "(m (> (m) a) (> (m) a) a a)"},
		{[]string{"(> (m a) a)", "(> (m) a)", "(> (m a) a)"}, "(m (> (m a) a) (> (m a) a) (> (m) a))"},
		{[]string{"(> (m) a)", "(> (m a a) a)", "(> (m a) a)"}, "(m (> (m a a) a) (> (m a) a) (> (m) a))"},
		{[]string{"(> (m (> (m) a) a) a)", "(> (m a) (> (m) a))", "(> (m a) a)"}, "(m (> (m (> (m) a) a) a) (> (m a) (> (m) a)) (> (m a) a))"},
	} {
		if got, ok := impl.BagOf(c.list); !ok || got != c.want {
			t.Errorf("BagOf of %q returned %q, %v", c.list, got, ok)
		}
		sorted := slices.Clone(c.list)
		slices.Sort(sorted)
		if got, ok := impl.BagTypes(c.want); !ok || !slices.Equal(got, sorted) {
			t.Errorf("BagTypes of %q returned %q, %v", c.want, got, ok)
		}
	}
}

func TestBagOrder(t *testing.T) {
	types := inOrder()
	want := bagTextOf(types)
	turned := slices.Clone(types)
	slices.Reverse(turned)
	for i := range types {
		for _, list := range [][]string{slices.Concat(types[i:], types[:i]), slices.Concat(turned[i:], turned[:i])} {
			if got, ok := impl.BagOf(list); !ok || got != want {
				t.Errorf("BagOf of %q returned %q, %v", list, got, ok)
			}
		}
	}
	for i := 1; i < len(types); i++ {
		if ahead := bagTextOf(types[i-1 : i+1]); !impl.BagValid(ahead) {
			t.Errorf("BagValid of %q is false", ahead)
		}
		if behind := bagTextOf([]string{types[i], types[i-1]}); impl.BagValid(behind) {
			t.Errorf("BagValid of %q is true", behind)
		}
	}
}

// Each order of a list makes the same bag, also with equal types.
func TestBagOrders(t *testing.T) {
	for _, list := range [][]string{
		{"(> (m a) a)", "(> (m) a)", "a", "b"},
		{"(> (m) a)", "(> (m) a)", "a", "b"},
		{"(> (m) a)", "(> (m) b)", "a", "a"},
		{"a", "a", "a", "b"},
		{"(> (m l) n)", "(> (m n) l)", "l", "n", "n"},
	} {
		for _, order := range ordersOf(list) {
			if got, ok := impl.BagOf(order); !ok || got != bagTextOf(list) {
				t.Errorf("BagOf of %q returned %q, %v", order, got, ok)
			}
			if want := slices.Equal(order, list); impl.BagValid(bagTextOf(order)) != want {
				t.Errorf("BagValid of %q is %v", bagTextOf(order), !want)
			}
		}
	}
}

func ordersOf(list []string) [][]string {
	if len(list) == 0 {
		return [][]string{nil}
	}
	var orders [][]string
	for i, s := range list {
		for _, others := range ordersOf(slices.Concat(list[:i], list[i+1:])) {
			orders = append(orders, append([]string{s}, others...))
		}
	}
	return orders
}

func TestBagSum(t *testing.T) {
	for _, c := range []struct{ a, b, want string }{
		{"(m)", "(m)", "(m)"},
		{"(m)", "(m a)", "(m a)"},
		{"(m a)", "(m a)", "(m a a)"},
		{"(m a a)", "(m a)", "(m a a a)"},
		{"(m a b)", "(m a b)", "(m a a b b)"},
		{"(m a c)", "(m b)", "(m a b c)"},
		{"(m a c c)", "(m b b c)", "(m a b b c c c)"},
		{"(m (> (m) a) a)", "(m (> (m) a) b)", "(m (> (m) a) (> (m) a) a b)"},
		{"(m (> (m) a))", "(m (> (m a) a))", "(m (> (m a) a) (> (m) a))"},
		{"(m n)", "(m l)", "(m l n)"},
		{"(m m)", "(m m m)", "(m m m m)"},
	} {
		for _, pair := range [][2]string{{c.a, c.b}, {c.b, c.a}} {
			if got, ok := impl.BagSum(pair[0], pair[1]); !ok || got != c.want {
				t.Errorf("BagSum of %q returned %q, %v", pair, got, ok)
			}
		}
	}
}

func TestBagCount(t *testing.T) {
	for _, c := range []struct {
		bag, s string
		want   int
	}{
		{"(m)", "a", 0},
		{"(m)", "m", 0},
		{"(m a)", "a", 1},
		{"(m a)", "b", 0},
		{"(m a)", "m", 0},
		{"(m m m)", "m", 2},
		{"(m a a b)", "a", 2},
		{"(m a a b)", "b", 1},
		{"(m a a a a)", "a", 4},
		{"(m (> (m) a) (> (m) a) a)", "(> (m) a)", 2},
		{"(m (> (m) a) (> (m) a) a)", "a", 1},
		{"(m (> (m) a) (> (m) a) b)", "a", 0},
		{"(m (> (m a a) a))", "a", 0},
		{"(m (> (m a a) a))", "(> (m a) a)", 0},
		{"(m (> (m a a) a) (> (m a) a))", "(> (m a) a)", 1},
		{bagWith(impl.TypeMax), "a", impl.TypeMax - 1},
		{"(m a)", typeWith(impl.TypeMax), 0},
	} {
		if got := impl.BagCount(c.bag, c.s); got != c.want {
			t.Errorf("BagCount in %.40q of %.40q returned %d", c.bag, c.s, got)
		}
	}
}

func TestTypeMakeAndParts(t *testing.T) {
	for _, c := range []struct{ bag, to, want string }{
		{"(m)", "a", "(> (m) a)"},
		{"(m a)", "b", "(> (m a) b)"},
		{"(m m)", "m", "(> (m m) m)"},
		{"(m a a)", "a", "(> (m a a) a)"},
		{"(m l n)", "n", "(> (m l n) n)"},
		{"(m)", "(> (m) a)", "(> (m) (> (m) a))"},
		{"(m (> (m) a) b)", "c", "(> (m (> (m) a) b) c)"},
		{"(m (> (m (> (m) a)) a))", "(> (m a) (> (m) a))", "(> (m (> (m (> (m) a)) a)) (> (m a) (> (m) a)))"},
	} {
		if got, ok := impl.TypeMake(c.bag, c.to); !ok || got != c.want {
			t.Errorf("TypeMake of %q and %q returned %q, %v", c.bag, c.to, got, ok)
		}
		if bag, to, ok := impl.TypeParts(c.want); !ok || bag != c.bag || to != c.to {
			t.Errorf("TypeParts of %q returned %q, %q, %v", c.want, bag, to, ok)
		}
	}
	for b := 'a'; b <= 'z'; b++ {
		if bag, to, ok := impl.TypeParts(string(b)); ok || bag != "" || to != "" {
			t.Errorf("TypeParts of %q returned %q, %q, %v", string(b), bag, to, ok)
		}
	}
}

func TestTypeTight(t *testing.T) {
	for s, want := range map[string]bool{
		"n": true, "l": true, "a": false, "m": false, "o": false, "k": false,
		"(m)": true, "(m n)": true, "(m l)": true, "(m l n)": true, "(m l l n n n)": true,
		"(m m)": false, "(m a)": false, "(m a n)": false, "(m l o)": false, "(m l m n)": false, "(m l n z)": false,
		"(> (m) n)": false, "(> (m n) l)": false, "(> (m l n) n)": false, "(> (m) (> (m) l))": false,
		"(m (> (m) n))": false, "(m (> (m) n) l n)": false, "(m (> (m l n) l))": false,
		"(m n l)": false, "(n)": false, "nl": false,
	} {
		if impl.TypeTight(s) != want {
			t.Errorf("TypeTight of %q is %v", s, !want)
		}
	}
}

func TestTypeMax(t *testing.T) {
	const most = impl.TypeMax
	for _, s := range []string{typeWith(most), bagWith(most), "(m " + typeWith(most-1) + ")", "(> (m) " + typeWith(most-2) + ")", "(> (m " + typeWith(most-3) + ") a)"} {
		if n := impl.TypeSize(s); n != most || impl.TypeValid(s) == impl.BagValid(s) {
			t.Errorf("TypeSize of %.40q returned %d", s, n)
		}
	}
	for _, s := range []string{typeWith(most + 1), bagWith(most + 1), "(m " + typeWith(most) + ")", "(> (m) " + typeWith(most-1) + ")", "(> (m " + typeWith(most-2) + ") a)"} {
		if n := impl.TypeSize(s); n != -1 || impl.TypeValid(s) || impl.BagValid(s) {
			t.Errorf("TypeSize of %.40q returned %d", s, n)
		}
	}
	if !impl.TypeValid(deepRight(99)) || impl.TypeValid(deepRight(100)) || !impl.TypeValid(deepLeft(66)) || impl.TypeValid(deepLeft(67)) {
		t.Errorf("types within each other: %v, %v, %v, %v", impl.TypeValid(deepRight(99)), impl.TypeValid(deepRight(100)), impl.TypeValid(deepLeft(66)), impl.TypeValid(deepLeft(67)))
	}
	if bag, to, ok := impl.TypeParts(typeWith(most)); !ok || bag != bagWith(most-2) || to != "b" {
		t.Errorf("TypeParts returned %.40q, %q, %v", bag, to, ok)
	}
	if types, ok := impl.BagTypes(bagWith(most)); !ok || len(types) != most-1 {
		t.Errorf("BagTypes returned %d types, %v", len(types), ok)
	}
	if impl.TypeTight("(m"+strings.Repeat(" n", most)+")") || !impl.TypeTight("(m"+strings.Repeat(" n", most-1)+")") {
		t.Errorf("TypeTight does not keep to TypeMax")
	}
}

func TestBagOfMax(t *testing.T) {
	const most = impl.TypeMax
	for _, c := range []struct {
		list []string
		size int // -1 if there are too many atoms
	}{
		{slices.Repeat([]string{"a"}, most-1), most},
		{slices.Repeat([]string{"a"}, most), -1},
		{slices.Repeat([]string{"a"}, 50*most), -1},
		{[]string{typeWith(most - 1)}, most},
		{[]string{typeWith(most)}, -1},
		{[]string{"b", typeWith(most - 2)}, most},
		{[]string{"b", typeWith(most - 1)}, -1},
		{[]string{typeWith(100), typeWith(99)}, most},
		{[]string{typeWith(100), typeWith(100)}, -1},
		{[]string{typeWith(99), typeWith(99)}, most - 1},
		{[]string{"a", typeWith(99), typeWith(99)}, most},
		{[]string{"a", typeWith(99), typeWith(99), "a"}, -1},
		{inOrder(), 1 + sizeOfAll(inOrder())},
	} {
		got, ok := impl.BagOf(c.list)
		if impl.TypeSize(got) != c.size || ok != (c.size != -1) || ok == (got == "") {
			t.Errorf("BagOf of %d types returned %.40q, %v", len(c.list), got, ok)
		}
	}
}

func sizeOfAll(types []string) int {
	n := 0
	for _, s := range types {
		n += impl.TypeSize(s)
	}
	return n
}

func TestBagSumMax(t *testing.T) {
	const most = impl.TypeMax
	for _, c := range []struct {
		a, b string
		ok   bool
	}{
		{bagWith(most), "(m)", true},
		{bagWith(most), "(m a)", false},
		{bagWith(most), "(m z)", false},
		{bagWith(most), bagWith(most), false},
		{bagWith(most - 1), "(m z)", true},
		{bagWith(101), bagWith(100), true},
		{bagWith(101), bagWith(101), false},
		{"(m " + typeWith(100) + ")", "(m " + typeWith(99) + ")", true},
		{"(m " + typeWith(100) + ")", "(m " + typeWith(100) + ")", false},
	} {
		for _, pair := range [][2]string{{c.a, c.b}, {c.b, c.a}} {
			got, ok := impl.BagSum(pair[0], pair[1])
			if ok != c.ok || ok != impl.BagValid(got) || ok == (got == "") {
				t.Errorf("BagSum of %.40q returned %.40q, %v", pair, got, ok)
			}
			if ok && impl.TypeSize(got) != most {
				t.Errorf("BagSum of %.40q has %d atoms", pair, impl.TypeSize(got))
			}
		}
	}
}

func TestTypeMakeMax(t *testing.T) {
	const most = impl.TypeMax
	for _, c := range []struct {
		bag, to string
		ok      bool
	}{
		{bagWith(most - 2), "b", true},
		{bagWith(most - 1), "b", false},
		{bagWith(most), "b", false},
		{"(m)", typeWith(most - 2), true},
		{"(m)", typeWith(most - 1), false},
		{"(m)", typeWith(most), false},
		{bagWith(100), typeWith(99), true},
		{bagWith(100), typeWith(100), false},
		{bagWith(most), typeWith(most), false},
	} {
		got, ok := impl.TypeMake(c.bag, c.to)
		if ok != c.ok || ok != impl.TypeValid(got) || ok == (got == "") {
			t.Errorf("TypeMake of %.40q and %.40q returned %.40q, %v", c.bag, c.to, got, ok)
		}
		if ok && impl.TypeSize(got) != most {
			t.Errorf("TypeMake of %.40q and %.40q has %d atoms", c.bag, c.to, impl.TypeSize(got))
		}
	}
}

// Results are new memory, and a list that is given stays as it is.
func TestBagResults(t *testing.T) {
	const s = "(m (> (m) a) a a)"
	types, _ := impl.BagTypes(s)
	for i := range types {
		types[i] = "z"
	}
	_ = append(types[:1], "b", "c", "d")
	if types, _ := impl.BagTypes(s); !slices.Equal(types, []string{"(> (m) a)", "a", "a"}) {
		t.Errorf("results share memory: %q", types)
	}
	given := []string{"b", "a", "(> (m) a)", "a"}
	list := slices.Clone(given)
	bag, _ := impl.BagOf(list)
	if !slices.Equal(list, given) {
		t.Errorf("BagOf makes of its list %q", list)
	}
	list[0] = "c"
	if bag != "(m (> (m) a) a a b)" {
		t.Errorf("BagOf keeps its list: %q", bag)
	}
}
