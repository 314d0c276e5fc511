package tests

import (
	"slices"
	"strings"
	"testing"

	"loop.example/intersectiontypes/impl"
)

// noTerms are texts that are no terms.
func noTerms() []string {
	list := []string{
		"", " ", "\n", "\x00", "\xff", "é", "()", "(", ")", "((", "))", ")x(",
		"X", "xy", "lam", "app", "om", "1", "1x", "x1y", "x>", ">", "x1234", "x00000", "x-1", "x_", "_x", "{", "`", "a/", "a:",
		"x ", " x", "x\n", "x y", "x)", "(x", "x(", "(x)", "((x))", "(x y)", "(x y z)",
		"(lam)", "(lam x)", "(lam x y z)", "(lam xy y)", "(lam lam x)", "(lam 1 x)", "(lam x1234 x)", "(lam (x) x)", "(lam x y1234)",
		"(lam x lam)", "(lam x (x))", "(lam (lam x x) x)", "(lam x >)", "(lam > x)", "(lam x ())", "(lam () x)", "(Lam x x)", "(lamx x)",
		"(app)", "(app x)", "(app x y z)", "(app app x)", "(app x app)", "(app lam x)", "(app x lam)", "(app (x) y)", "(app x (y))",
		"(app () x)", "(app x ())", "(om x y)", "(> x y)", "((lam) x y)", "((lam x x) y)", "(pp x y)",
		"(lam  x x)", "(lam x  x)", "( lam x x)", "(lam x x )", " (lam x x)", "(lam x x) ", "(lam\tx x)", "(lam x\nx)", "(lam x\u00a0x)",
		"(lam x(app x x))", "(app(lam x x) y)", "(app (lam x x)y)", "(app (lam x x)(lam x x))",
		"(lam x x", "lam x x)", "(lam x x))", "((lam x x)", "(lam x x)x", "(lam x x) x", "(lam x x)(lam x x)", "(app x y) ()", "(lam x x).",
	}
	return append(list, tooLarge()...)
}

// tooLarge are texts at the limits and beyond them.
func tooLarge() []string {
	return []string{
		deepLams(200),
		leftApps(200),
		"(lam x " + leftApps(199) + ")",
		deepLams(300),
		deepLams(301),
		leftApps(300),
		leftApps(301),
		strings.Repeat("(", 300) + "x" + strings.Repeat(")", 300),
		strings.Repeat("(", 301) + "x" + strings.Repeat(")", 301),
		textOf(impl.TextMax),
		textOf(impl.TextMax + 1),
		strings.Repeat("x", impl.TextMax),
		strings.Repeat("x", impl.TextMax+1),
		"x" + strings.Repeat(" ", impl.TextMax),
		strings.Repeat("(", impl.TextMax),
		strings.Repeat("(", 1000*impl.TextMax),
		strings.Repeat("(lam x ", 100*impl.TextMax),
	}
}

// deepLams has n lams within each other, and 2n+1 atoms.
func deepLams(n int) string {
	return strings.Repeat("(lam x ", n) + "x" + strings.Repeat(")", n)
}

// leftApps has n apps within each other, and 2n+1 atoms.
func leftApps(n int) string {
	return strings.Repeat("(app ", n) + "x" + strings.Repeat(" y)", n)
}

// textOf has n bytes, and would be a term without the limits.
func textOf(n int) string {
	text := deepLams((n - 1) / 8)
	return strings.Replace(text, "(lam x ", "(lam x1 ", n-len(text))
}

func TestTextOf(t *testing.T) {
	for _, n := range []int{impl.TextMax, impl.TextMax + 1} {
		if len(textOf(n)) != n {
			t.Errorf("textOf(%d) has %d bytes", n, len(textOf(n)))
		}
	}
}

func TestTermValid(t *testing.T) {
	for _, s := range []string{"x", "a", "z", "x1", "x12", "x123", "x0", "x00", "x000", "z9", "(lam x x)", "(lam x123 y456)",
		"(app x y)", "(app x x)", "(lam x (lam x x))", "(app (lam x x) (lam y y))", "(app (app x (app y z)) (lam x1 (app x1 x)))"} {
		if !impl.TermValid(s) {
			t.Errorf("TermValid of %q is false", s)
		}
	}
	for _, s := range noTerms() {
		if impl.TermValid(s) {
			t.Errorf("TermValid of %.40q (%d bytes) is true", s, len(s))
		}
	}
}

// The name of a lam and a name that stands as a term are alike in what they may be.
func TestTermNames(t *testing.T) {
	for b := range 256 {
		for _, c := range []struct {
			name string
			want bool
		}{
			{string([]byte{byte(b)}), 'a' <= b && b <= 'z'},
			{string([]byte{'x', byte(b)}), '0' <= b && b <= '9'},
			{string([]byte{'x', '1', byte(b)}), '0' <= b && b <= '9'},
			{string([]byte{'x', '1', '2', byte(b)}), '0' <= b && b <= '9'},
			{string([]byte{'x', '1', '2', '3', byte(b)}), false},
			{string([]byte{byte(b), '1'}), 'a' <= b && b <= 'z'},
		} {
			checkName(t, c.name, c.want)
		}
	}
}

func checkName(t *testing.T, name string, want bool) {
	t.Helper()
	for _, s := range []string{name, "(lam " + name + " x)", "(lam x " + name + ")", "(app " + name + " x)", "(app x " + name + ")"} {
		if impl.TermValid(s) != want {
			t.Errorf("TermValid of %q is %v", s, !want)
		}
	}
	if got := impl.TermUses("x", name) != -1; got != want {
		t.Errorf("TermUses takes %q as a name: %v", name, got)
	}
	if _, ok := impl.TermPut("x", name, "x"); ok != want {
		t.Errorf("TermPut takes %q as a name: %v", name, ok)
	}
}

func TestTermInvalid(t *testing.T) {
	for _, s := range noTerms() {
		checkNoTerm(t, s)
	}
	for _, name := range []string{"", "xy", "x1234", "1", ">", "(lam x x)", "(x)", "x ", " x", "X", "lam", "app", strings.Repeat("x", 10000)} {
		for _, s := range []string{"x", "y", "(lam x x)", "lam"} {
			if n := impl.TermUses(s, name); n != -1 {
				t.Errorf("TermUses of %q and the name %q returned %d", s, name, n)
			}
			if got, ok := impl.TermPut(s, name, "x"); ok || got != "" {
				t.Errorf("TermPut of %q and the name %q returned %q", s, name, got)
			}
		}
	}
}

func checkNoTerm(t *testing.T, s string) {
	t.Helper()
	if got, ok := impl.TermFree(s); ok || len(got) != 0 {
		t.Errorf("TermFree of %.40q returned %q, %v", s, got, ok)
	}
	if got, ok := impl.TermCanon(s); ok || got != "" {
		t.Errorf("TermCanon of %.40q returned %q, %v", s, got, ok)
	}
	if impl.TermAlike(s, s) || impl.TermAlike(s, "x") || impl.TermAlike("x", s) {
		t.Errorf("TermAlike of %.40q is true", s)
	}
	if got, ok := impl.TermPut(s, "x", "y"); ok || got != "" {
		t.Errorf("TermPut in %.40q returned %q, %v", s, got, ok)
	}
	for _, in := range []string{"x", "y", "(lam x x)"} {
		if got, ok := impl.TermPut(in, "x", s); ok || got != "" {
			t.Errorf("TermPut of %.40q in %q returned %q, %v", s, in, got, ok)
		}
	}
	if n := impl.TermUses(s, "x"); n != -1 {
		t.Errorf("TermUses of %.40q returned %d", s, n)
	}
	if n := impl.TermSize(s); n != -1 {
		t.Errorf("TermSize of %.40q returned %d", s, n)
	}
	if lams, body, first, apps, ok := impl.TermParts(s); ok || lams != 0 || body != "" || first != "" || apps != 0 {
		t.Errorf("TermParts of %.40q returned %d, %q, %q, %d, %v", s, lams, body, first, apps, ok)
	}
	if got, ok := impl.TermArgs(s); ok || len(got) != 0 {
		t.Errorf("TermArgs of %.40q returned %q, %v", s, got, ok)
	}
}

func TestTermFree(t *testing.T) {
	for _, c := range []struct {
		s    string
		want []string
	}{
		{"x", []string{"x"}},
		{"(lam x x)", nil},
		{"(app y x)", []string{"y", "x"}},
		{"(app (app y x) y)", []string{"y", "x"}},
		{"(app x (lam x x))", []string{"x"}},
		{"(app (lam x x) x)", []string{"x"}},
		{"(app (lam y y) (app x y))", []string{"x", "y"}},
		{"(lam x (app (app y x) (lam y (app z y))))", []string{"y", "z"}},
		{"(lam x (app (lam x x) (app x y)))", []string{"y"}},
		{"(app (app z1 z0) (app z z00))", []string{"z1", "z0", "z", "z00"}},
	} {
		if got, ok := impl.TermFree(c.s); !ok || !slices.Equal(got, c.want) {
			t.Errorf("TermFree of %q returned %q, %v", c.s, got, ok)
		}
	}
}

func TestTermCanon(t *testing.T) {
	for _, c := range []struct{ s, want string }{
		{"x", "x"},
		{"z5", "z5"},
		{"(lam x x)", "(lam z0 z0)"},
		{"(lam x y)", "(lam z0 y)"},
		{"(lam x z0)", "(lam z1 z0)"},
		{"(lam z0 z1)", "(lam z0 z1)"},
		{"(lam z1 z1)", "(lam z0 z0)"},
		{"(lam x (lam x x))", "(lam z0 (lam z1 z1))"},
		{"(lam x (lam y x))", "(lam z0 (lam z1 z0))"},
		{"(lam x (lam y (lam x (app x y))))", "(lam z0 (lam z1 (lam z2 (app z2 z1))))"},
		{"(lam x (app (lam x x) x))", "(lam z0 (app (lam z1 z1) z0))"},
		{"(app (lam x x) (lam x x))", "(app (lam z0 z0) (lam z1 z1))"},
		{"(app x (lam x x))", "(app x (lam z0 z0))"},
		{"(app (lam x x) x)", "(app (lam z0 z0) x)"},
		{"(app (lam x x) (lam y z0))", "(app (lam z1 z1) (lam z2 z0))"},
		{"(app z0 (lam z0 (lam z1 (app z0 z1))))", "(app z0 (lam z1 (lam z2 (app z1 z2))))"},
		{"(app (lam z0 (lam z1 z0)) z1)", "(app (lam z0 (lam z2 z0)) z1)"},
		{"(lam a (lam b (lam c (app z1 z3))))", "(lam z0 (lam z2 (lam z4 (app z1 z3))))"},
		{"(lam x (app z00 z0))", "(lam z1 (app z00 z0))"},
		{"(lam x z00)", "(lam z0 z00)"},
		{"(lam x z)", "(lam z0 z)"},
		{"(lam z1 (lam z0 (app z1 z0)))", "(lam z0 (lam z1 (app z0 z1)))"},
	} {
		if got, ok := impl.TermCanon(c.s); !ok || got != c.want {
			t.Errorf("TermCanon of %q returned %q, %v", c.s, got, ok)
		}
	}
}

func TestTermAlike(t *testing.T) {
	for _, c := range []struct {
		a, b string
		want bool
	}{
		{"x", "x", true},
		{"x", "y", false},
		{"(lam x x)", "(lam y y)", true},
		{"(lam x y)", "(lam y y)", false},
		{"(lam x y)", "(lam z y)", true},
		{"(lam x y)", "(lam x z)", false},
		{"(lam x (lam y x))", "(lam y (lam x y))", true},
		{"(lam x (lam y x))", "(lam x (lam y y))", false},
		{"(lam x (lam x x))", "(lam x (lam y y))", true},
		{"(lam x (lam x x))", "(lam x (lam y x))", false},
		{"(app x (lam x x))", "(app x (lam y y))", true},
		{"(app x (lam x x))", "(app y (lam y y))", false},
		{"(app (lam x x) x)", "(app (lam y y) y)", false},
		{"(lam x z0)", "(lam z0 z0)", false},
		{"(lam x x)", "x", false},
		{"(lam x x)", "(app x x)", false},
		{"(app x y)", "(app y x)", false},
		{"x1", "x01", false},
	} {
		if got := impl.TermAlike(c.a, c.b); got != c.want {
			t.Errorf("TermAlike of %q and %q is %v", c.a, c.b, got)
		}
	}
}

func TestTermPut(t *testing.T) {
	for _, c := range []struct{ s, name, by, want string }{
		{"x", "x", "y", "y"},
		{"x", "x", "x", "x"},
		{"x", "y", "z", "x"},
		{"x", "x", "(lam y y)", "(lam z0 z0)"},
		{"(lam x x)", "x", "y", "(lam z0 z0)"},
		{"(lam x y)", "z", "y", "(lam z0 y)"},
		{"(lam x y)", "y", "x", "(lam z0 x)"},
		{"(lam x (lam y z))", "z", "(app x y)", "(lam z0 (lam z1 (app x y)))"},
		{"(lam x (lam y (app (app x y) z)))", "z", "(app x y)", "(lam z0 (lam z1 (app (app z0 z1) (app x y))))"},
		{"(lam z0 (app z0 y))", "y", "z0", "(lam z1 (app z1 z0))"},
		{"(lam z0 (lam z1 (app z0 y)))", "y", "(app z0 z1)", "(lam z2 (lam z3 (app z2 (app z0 z1))))"},
		{"(app x (lam x x))", "x", "y", "(app y (lam z0 z0))"},
		{"(app (lam x x) x)", "x", "y", "(app (lam z0 z0) y)"},
		{"(lam x (app y (lam y (app x y))))", "y", "x", "(lam z0 (app x (lam z1 (app z0 z1))))"},
		{"(lam x (app y (lam y y)))", "y", "(lam x (app x y))", "(lam z0 (app (lam z1 (app z1 y)) (lam z2 z2)))"},
		{"(app x x)", "x", "(app x y)", "(app (app x y) (app x y))"},
		{"(app x (app y x))", "x", "(lam x (lam y x))", "(app (lam z0 (lam z1 z0)) (app y (lam z2 (lam z3 z2))))"},
		{"(lam z0 (app z0 z1))", "z1", "(lam z0 z2)", "(lam z0 (app z0 (lam z1 z2)))"},
		{"(app x (lam x z0))", "z0", "x", "(app x (lam z0 x))"},
		{"(lam x y)", "x", "x1", "(lam z0 y)"},
		{"(lam x x1)", "x1", "x", "(lam z0 x)"},
	} {
		if got, ok := impl.TermPut(c.s, c.name, c.by); !ok || got != c.want {
			t.Errorf("TermPut in %q for %q of %q returned %q, %v", c.s, c.name, c.by, got, ok)
		}
	}
}

func TestTermUses(t *testing.T) {
	for _, c := range []struct {
		s, name string
		want    int
	}{
		{"x", "x", 1},
		{"x", "y", 0},
		{"(lam x x)", "x", 0},
		{"(app x x)", "x", 2},
		{"(app x (lam x x))", "x", 1},
		{"(app (lam x x) x)", "x", 1},
		{"(lam y (app x (app y x)))", "x", 2},
		{"(lam y (app x (app y x)))", "y", 0},
		{"(app x1 x01)", "x1", 1},
	} {
		if got := impl.TermUses(c.s, c.name); got != c.want {
			t.Errorf("TermUses of %q in %q returned %d", c.name, c.s, got)
		}
	}
}

func TestTermSize(t *testing.T) {
	for s, want := range map[string]int{
		"x": 0, "x123": 0, "(lam x x)": 1, "(app x y)": 1, "(lam x (lam x x))": 2, "(app (lam x x) (lam y (app y y)))": 4,
	} {
		if got := impl.TermSize(s); got != want {
			t.Errorf("TermSize of %q returned %d", s, got)
		}
	}
}

func TestTermParts(t *testing.T) {
	for _, c := range []struct {
		s           string
		lams        int
		body, first string
		args        []string
	}{
		{"x", 0, "x", "x", nil},
		{"(lam x x)", 1, "x", "x", nil},
		{"(lam y (lam x (lam y x)))", 3, "x", "x", nil},
		{"(app x y)", 0, "(app x y)", "x", []string{"y"}},
		{"(lam x (app (app y (lam z z)) (app x x)))", 1, "(app (app y (lam z z)) (app x x))", "y", []string{"(lam z z)", "(app x x)"}},
		{"(lam x (app (app y x) x))", 1, "(app (app y x) x)", "y", []string{"x", "x"}},
		{"(app (lam x x) y)", 0, "(app (lam x x) y)", "(lam x x)", []string{"y"}},
		{"(lam x (app (app (lam y (app y x)) a) (lam x x)))", 1, "(app (app (lam y (app y x)) a) (lam x x))", "(lam y (app y x))", []string{"a", "(lam x x)"}},
		{"(lam x (lam x (app x (lam x x))))", 2, "(app x (lam x x))", "x", []string{"(lam x x)"}},
		{"(app a (app b (app c d)))", 0, "(app a (app b (app c d)))", "a", []string{"(app b (app c d))"}},
		{"(app (app (app a b) c) d)", 0, "(app (app (app a b) c) d)", "a", []string{"b", "c", "d"}},
	} {
		lams, body, first, apps, ok := impl.TermParts(c.s)
		if !ok || lams != c.lams || body != c.body || first != c.first || apps != len(c.args) {
			t.Errorf("TermParts of %q returned %d, %q, %q, %d, %v", c.s, lams, body, first, apps, ok)
		}
		if args, ok := impl.TermArgs(c.s); !ok || !slices.Equal(args, c.args) {
			t.Errorf("TermArgs of %q returned %q, %v", c.s, args, ok)
		}
	}
}

// A term has one atom more than twice its lams and apps, so that TermMax is between 399 and 401.
func TestTermMax(t *testing.T) {
	const most = (impl.TermMax - 1) / 2
	for _, s := range []string{deepLams(most), leftApps(most), "(lam x " + leftApps(most-1) + ")"} {
		if n := impl.TermSize(s); n != most {
			t.Errorf("TermSize of a term of %d atoms returned %d", 2*most+1, n)
		}
		if _, ok := impl.TermCanon(s); !ok {
			t.Errorf("TermCanon of a term of %d atoms fails", 2*most+1)
		}
		if impl.TermValid("(lam x "+s+")") || impl.TermValid("(app "+s+" x)") || impl.TermValid("(app x "+s+")") {
			t.Errorf("a term has %d atoms", 2*most+3)
		}
	}
}

func TestTermPutMax(t *testing.T) {
	const most = (impl.TermMax - 1) / 2
	for _, c := range []struct {
		s, by string
		ok    bool
	}{
		{"x", leftApps(most), true},
		{"(app y x)", leftApps(most - 1), true},
		{"(app y x)", leftApps(most), false},
		{"(lam y x)", deepLams(most), false},
		{"(lam x x)", deepLams(most), true},
		{"(app x (lam x x))", deepLams(most - 2), true},
		{"(app x (lam x x))", deepLams(most - 1), false},
		{"(app x x)", leftApps((most - 1) / 2), true},
		{"(app x x)", leftApps((most-1)/2 + 1), false},
		{rightApps(99), "(lam x x)", true},
		{rightApps(100), "(lam x x)", false},
		{rightApps(most), "y", true},
		{rightApps(most), "(app x y)", false},
		{rightApps(most), leftApps(most), false},
		{chain(149), chain(150), false},
		{chain(150), chain(151), false},
		{chain(99), chain(100), true},
		{chain(100), chain(100), false},
	} {
		got, ok := impl.TermPut(c.s, "x", c.by)
		if ok != c.ok || ok == (got == "") || ok && !impl.TermValid(got) {
			t.Errorf("TermPut in %.40q of %.40q (%d and %d bytes) returned %.40q, %v", c.s, c.by, len(c.s), len(c.by), got, ok)
		}
	}
}

// rightApps has n apps and n+1 times the name x.
func rightApps(n int) string {
	return strings.Repeat("(app x ", n) + "x" + strings.Repeat(")", n)
}

// chain has one free name within n lams, so that two of them are as deep as both together.
func chain(n int) string {
	return strings.Repeat("(lam y ", n) + "x" + strings.Repeat(")", n)
}

// Names that are bound go on behind z9 and z99, within and beside each other.
func TestTermCanonMany(t *testing.T) {
	canon, ok := impl.TermCanon("(lam a " + strings.Repeat("(lam b ", 197) + "(app a b)" + strings.Repeat(")", 198))
	if !ok || !strings.HasPrefix(canon, "(lam z0 (lam z1 ") || !strings.Contains(canon, "(lam z197 (app z0 z197))") {
		t.Errorf("TermCanon of many lams returned %q", canon)
	}
	free := "z0"
	for i := 1; i < 100; i++ {
		free = "(app " + free + " z" + decimal(i) + ")"
	}
	canon, ok = impl.TermCanon(strings.Repeat("(lam x ", 100) + free + strings.Repeat(")", 100))
	if !ok || !strings.HasPrefix(canon, "(lam z100 (lam z101 ") || !strings.Contains(canon, "(lam z199 (app ") {
		t.Errorf("TermCanon beside many free names returned %q", canon)
	}
}

// Results are new memory: what is done to one changes no other one.
func TestTermResults(t *testing.T) {
	const s = "(app (app x y) z)"
	names, _ := impl.TermFree(s)
	args, _ := impl.TermArgs(s)
	for i := range names {
		names[i] = "a"
	}
	for i := range args {
		args[i] = "a"
	}
	_ = append(names[:1], "b", "c", "d")
	names, _ = impl.TermFree(s)
	args, _ = impl.TermArgs(s)
	if !slices.Equal(names, []string{"x", "y", "z"}) || !slices.Equal(args, []string{"y", "z"}) {
		t.Errorf("results share memory: %q, %q", names, args)
	}
}
