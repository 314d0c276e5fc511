package tests

import (
	"slices"
	"strings"
	"testing"
	"unsafe"

	"loop.example/intersectiontypes/impl"
)

// tightCase is a term with its tight derivation of a kind, the steps and the size of this, the numbers of its nodes,
// how many types the free names have, and the normal term.
type tightCase struct {
	kind, s, d  string
	steps, size int
	shape       []int
	shares      []int
	normal      string
}

func checkTights(t *testing.T, list []tightCase) {
	t.Helper()
	for _, c := range list {
		of := []string{c.kind}
		if c.kind == "both" {
			of = kinds()
		}
		for _, kind := range of {
			c.kind = kind
			checkTight(t, c)
		}
	}
}

// checkTight asks all that is told of a term that has a tight derivation.
func checkTight(t *testing.T, c tightCase) {
	t.Helper()
	checkTightOf(t, c)
	checkTightNormal(t, c)
	if normal, n, ok := impl.NormalOf(c.kind, c.s); !ok || normal != c.normal || n != c.steps || impl.Measure(c.kind, normal) != c.size {
		t.Errorf("NormalOf %s of %.100q returned %.100q, %d, %v", c.kind, c.s, normal, n, ok)
	}
	if !impl.TightEqual(c.kind, c.s, c.normal) || !impl.TightEqual(c.kind, c.normal, c.s) || !impl.TightEqual(c.kind, c.s, c.s) {
		t.Errorf("TightEqual %s of %.100q and %.100q does not hold", c.kind, c.s, c.normal)
	}
}

func checkTightOf(t *testing.T, c tightCase) {
	t.Helper()
	if d, ok := impl.TightOf(c.kind, c.s); !ok || d != c.d {
		t.Errorf("TightOf %s of %.100q returned %.300q, %v, not %.300q", c.kind, c.s, d, ok, c.d)
	}
	if steps, size, ok := impl.TightBounds(c.kind, c.s); !ok || steps != c.steps || size != c.size {
		t.Errorf("TightBounds %s of %.100q returned %d, %d, %v", c.kind, c.s, steps, size, ok)
	}
	if counts, ok := impl.TightShape(c.kind, c.s); !ok || !slices.Equal(counts, c.shape) {
		t.Errorf("TightShape %s of %.100q returned %v, %v", c.kind, c.s, counts, ok)
	}
	if shares, ok := impl.TightShares(c.kind, c.s); !ok || !slices.Equal(shares, c.shares) {
		t.Errorf("TightShares %s of %.100q returned %v, %v", c.kind, c.s, shares, ok)
	}
}

// checkTightNormal expects TightNormal to be TightOf for a term that takes no step, and to fail for others.
func checkTightNormal(t *testing.T, c tightCase) {
	t.Helper()
	want := ""
	if c.steps == 0 {
		want = c.d
	}
	if d, ok := impl.TightNormal(c.kind, c.s); d != want || ok != (want != "") {
		t.Errorf("TightNormal %s of %.100q returned %.300q, %v, not %.300q", c.kind, c.s, d, ok, want)
	}
}

// checkNotTight expects all to fail that is told of TightOf.
func checkNotTight(t *testing.T, kind string, s string) {
	t.Helper()
	if d, ok := impl.TightOf(kind, s); ok || d != "" {
		t.Errorf("TightOf %.40q of %.80q returned %.80q, %v", kind, s, d, ok)
	}
	if steps, size, ok := impl.TightBounds(kind, s); ok || steps != 0 || size != 0 {
		t.Errorf("TightBounds %.40q of %.80q returned %d, %d, %v", kind, s, steps, size, ok)
	}
	if counts, ok := impl.TightShape(kind, s); ok || len(counts) != 0 {
		t.Errorf("TightShape %.40q of %.80q returned %v, %v", kind, s, counts, ok)
	}
	if shares, ok := impl.TightShares(kind, s); ok || len(shares) != 0 {
		t.Errorf("TightShares %.40q of %.80q returned %v, %v", kind, s, shares, ok)
	}
	if impl.TightEqual(kind, s, s) || impl.TightEqual(kind, s, "y") || impl.TightEqual(kind, "y", s) {
		t.Errorf("TightEqual %.40q of %.80q and itself or y holds", kind, s)
	}
}

func checkNoTightNormal(t *testing.T, kind string, s string) {
	t.Helper()
	if d, ok := impl.TightNormal(kind, s); ok || d != "" {
		t.Errorf("TightNormal %.40q of %.80q returned %.80q, %v", kind, s, d, ok)
	}
}

// Terms that are normal already.
func TestTightNormal(t *testing.T) {
	checkTights(t, []tightCase{
		// A name.
		{"both", "x", "(ax n)", 0, 0, []int{1, 0, 0, 0, 0}, []int{1}, "x"},
		{"both", "z123", "(ax n)", 0, 0, []int{1, 0, 0, 0, 0}, []int{1}, "z123"},
		// Lams within each other.
		{"both", "(lam x x)", "(tfun (ax n))", 0, 1, []int{1, 0, 0, 1, 0}, nil, "(lam z0 z0)"},
		{"both", "(lam x y)", "(tfun (ax n))", 0, 1, []int{1, 0, 0, 1, 0}, []int{1}, "(lam z0 y)"},
		{"both", "(lam x (lam y x))", "(tfun (tfun (ax n)))", 0, 2, []int{1, 0, 0, 2, 0}, nil, "(lam z0 (lam z1 z0))"},
		{"both", "(lam x (lam x (lam x x)))", "(tfun (tfun (tfun (ax n))))", 0, 3, []int{1, 0, 0, 3, 0}, nil, "(lam z0 (lam z1 (lam z2 z2)))"},
		// An app, and several on the left.
		{"head", "(app x y)", "(hap (ax n))", 0, 1, []int{1, 0, 0, 0, 1}, []int{1, 0}, "(app x y)"},
		{"full", "(app x y)", "(tap (ax n) (ax n))", 0, 1, []int{2, 0, 0, 0, 1}, []int{1, 1}, "(app x y)"},
		{"head", "(app x x)", "(hap (ax n))", 0, 1, []int{1, 0, 0, 0, 1}, []int{1}, "(app x x)"},
		{"full", "(app x x)", "(tap (ax n) (ax n))", 0, 1, []int{2, 0, 0, 0, 1}, []int{2}, "(app x x)"},
		{"head", "(app (app (app x y) z) w)", "(hap (hap (hap (ax n))))", 0, 3, []int{1, 0, 0, 0, 3}, []int{1, 0, 0, 0}, "(app (app (app x y) z) w)"},
		{"full", "(app (app (app x y) z) w)", "(tap (tap (tap (ax n) (ax n)) (ax n)) (ax n))", 0, 3, []int{4, 0, 0, 0, 3}, []int{1, 1, 1, 1}, "(app (app (app x y) z) w)"},
		{"head", "(lam z (lam w (app (app z y) w)))", "(tfun (tfun (hap (hap (ax n)))))", 0, 4, []int{1, 0, 0, 2, 2}, []int{0}, "(lam z0 (lam z1 (app (app z0 y) z1)))"},
		{"full", "(lam z (lam w (app (app z y) w)))", "(tfun (tfun (tap (tap (ax n) (ax n)) (ax n))))", 0, 4, []int{3, 0, 0, 2, 2}, []int{1}, "(lam z0 (lam z1 (app (app z0 y) z1)))"},
		// Second terms with lam and app.
		{"head", "(app (app x (lam y y)) (app y (app y z)))", "(hap (hap (ax n)))", 0, 2, []int{1, 0, 0, 0, 2}, []int{1, 0, 0}, "(app (app x (lam z0 z0)) (app y (app y z)))"},
		{"full", "(app (app x (lam y y)) (app y (app y z)))", "(tap (tap (ax n) (tfun (ax n))) (tap (ax n) (tap (ax n) (ax n))))", 0, 5, []int{5, 0, 0, 1, 4}, []int{1, 2, 1}, "(app (app x (lam z0 z0)) (app y (app y z)))"},
		{"head", "(lam x (app x (lam y (app (app y x) w))))", "(tfun (hap (ax n)))", 0, 2, []int{1, 0, 0, 1, 1}, []int{0}, "(lam z0 (app z0 (lam z1 (app (app z1 z0) w))))"},
		{"full", "(lam x (app x (lam y (app (app y x) w))))", "(tfun (tap (ax n) (tfun (tap (tap (ax n) (ax n)) (ax n)))))", 0, 5, []int{4, 0, 0, 2, 3}, []int{1}, "(lam z0 (app z0 (lam z1 (app (app z1 z0) w))))"},
		// For head, second terms need not be normal.
		{"head", "(app x (app (lam y y) z))", "(hap (ax n))", 0, 1, []int{1, 0, 0, 0, 1}, []int{1, 0}, "(app x (app (lam z0 z0) z))"},
		{"head", "(app (app x " + endless + ") y)", "(hap (hap (ax n)))", 0, 2, []int{1, 0, 0, 0, 2}, []int{1, 0}, "(app (app x (app (lam z0 (app z0 z0)) (lam z1 (app z1 z1)))) y)"},
		{"head", "(lam x (app x (app (lam y y) x)))", "(tfun (hap (ax n)))", 0, 2, []int{1, 0, 0, 1, 1}, nil, "(lam z0 (app z0 (app (lam z1 z1) z0)))"},
	})
}

// A term that is not normal for the kind has no TightNormal, though most have TightOf.
func TestTightNormalNot(t *testing.T) {
	for _, s := range []string{
		"(app (lam x x) y)", "(app (lam x y) z)", "(lam z (app (lam x x) z))", "(app (app (lam x x) y) z)", "(lam w (app (app (app (lam x x) w) w) y))",
		"(app (lam x (app x x)) (lam y y))", "(app (app (lam x (lam y x)) z) w)", endless, growing, "(lam x " + endless + ")", "(app (lam x y) " + endless + ")", waits(185),
	} {
		checkNoTightNormal(t, "head", s)
		checkNoTightNormal(t, "full", s)
	}
	for s, head := range map[string]string{
		"(app x (app (lam y y) z))": "(hap (ax n))", "(lam x (app x (app (lam y y) x)))": "(tfun (hap (ax n)))", "(app (app x (app (lam y y) z)) w)": "(hap (hap (ax n)))",
		"(app x (lam y (app (lam z z) y)))": "(hap (ax n))", "(app x " + endless + ")": "(hap (ax n))", "(app x (app y (app (lam x z) y)))": "(hap (ax n))",
	} {
		checkNoTightNormal(t, "full", s)
		if d, ok := impl.TightNormal("head", s); !ok || d != head {
			t.Errorf("TightNormal head of %q returned %q, %v", s, d, ok)
		}
	}
}

// The greatest terms that there are have far less nodes than a derivation may have.
func TestTightNormalTermMax(t *testing.T) {
	checkTights(t, []tightCase{
		{"both", deepLams(199), deepTight("tfun", 199), 0, 199, []int{1, 0, 0, 199, 0}, nil, canonOf(t, deepLams(199))},
		{"head", leftApps(199), deepTight("hap", 199), 0, 199, []int{1, 0, 0, 0, 199}, []int{1, 0}, leftApps(199)},
		{"full", leftApps(199), strings.Repeat("(tap ", 199) + "(ax n)" + strings.Repeat(" (ax n))", 199), 0, 199, []int{200, 0, 0, 0, 199}, []int{1, 199}, leftApps(199)},
		{"head", rightApps(199), "(hap (ax n))", 0, 1, []int{1, 0, 0, 0, 1}, []int{1}, rightApps(199)},
	})
	for _, kind := range kinds() {
		for _, s := range []string{deepLams(200), leftApps(200), rightApps(200)} {
			checkNoTightNormal(t, kind, s)
			checkNotTight(t, kind, s)
		}
	}
}

func deepTight(word string, n int) string {
	return strings.Repeat("("+word+" ", n) + "(ax n)" + strings.Repeat(")", n)
}

// A name can stand so often that its bag has more than TypeMax atoms. Then nothing is derived, for full.
func TestTightNormalBagMax(t *testing.T) {
	for n := 190; n <= 199; n++ {
		taps := strings.Repeat("(tap (ax n) ", n) + "(ax n)" + strings.Repeat(")", n)
		for _, s := range []string{rightApps(n), strings.Replace(rightApps(n), "x", "y", -1)} {
			if n+2 > impl.TypeMax {
				checkNoTightNormal(t, "full", s)
				checkNotTight(t, "full", s)
			} else {
				checkTight(t, tightCase{"full", s, taps, 0, n, []int{n + 1, 0, 0, 0, n}, []int{n + 1}, s})
			}
			checkTight(t, tightCase{"head", s, "(hap (ax n))", 0, 1, []int{1, 0, 0, 0, 1}, []int{1}, s})
		}
	}
	// With another name among them, each bag is small enough.
	s := "(app y " + rightApps(198) + ")"
	checkTight(t, tightCase{"full", s, strings.Repeat("(tap (ax n) ", 199) + "(ax n)" + strings.Repeat(")", 199), 0, 199, []int{200, 0, 0, 0, 199}, []int{1, 199}, s})
	// The bag of a bound name.
	s = "(lam x " + rightApps(198) + ")"
	checkTight(t, tightCase{"full", s, "(tfun " + strings.Repeat("(tap (ax n) ", 198) + "(ax n)" + strings.Repeat(")", 199), 0, 199, []int{199, 0, 0, 1, 198}, nil, canonOf(t, s)})
}

// A step comes to a term in which a name stands too often.
func TestTightOfBagMax(t *testing.T) {
	s := "(app (lam v (app v v)) " + rightApps(99) + ")"
	if _, n, ok := impl.NormalOf("full", s); !ok || n != 1 {
		t.Errorf("NormalOf full of %q: %d, %v", s, n, ok)
	}
	checkNotTight(t, "full", s)
	checkTight(t, tightCase{"head", s, "(app (fun (hap (ax n))) (hap (ax n)))", 1, 2, []int{2, 1, 1, 0, 2}, []int{1}, "(app " + rightApps(99) + " " + rightApps(99) + ")"})
	s = "(app (lam v (app x (app v v))) " + rightApps(98) + ")"
	one := strings.Repeat("(tap (ax n) ", 98) + "(ax n)" + strings.Repeat(")", 98)
	checkTight(t, tightCase{"full", s, "(app (fun (tap (ax n) (tap (ax n) (ax n)))) " + one + " " + one + ")", 1, 198, []int{201, 1, 1, 0, 198}, []int{199}, "(app x (app " + rightApps(98) + " " + rightApps(98) + "))"})
}

// The second term of the redex is derived once, or not at all.
func TestTightOfOnce(t *testing.T) {
	checkTights(t, []tightCase{
		{"both", "(app (lam x x) y)", "(app (fun (ax n)) (ax n))", 1, 0, []int{2, 1, 1, 0, 0}, []int{1}, "y"},
		{"both", "(lam z (app (lam x x) z))", "(tfun (app (fun (ax n)) (ax n)))", 1, 1, []int{2, 1, 1, 1, 0}, nil, "(lam z0 z0)"},
		{"both", "(app (lam x (lam y x)) z)", "(app (fun (tfun (ax n))) (ax n))", 1, 1, []int{2, 1, 1, 1, 0}, []int{1}, "(lam z0 z)"},
		{"both", "(app (lam x (lam y x)) y)", "(app (fun (tfun (ax n))) (ax n))", 1, 1, []int{2, 1, 1, 1, 0}, []int{1}, "(lam z0 y)"},
		{"head", "(app (app (lam x x) y) z)", "(hap (app (fun (ax n)) (ax n)))", 1, 1, []int{2, 1, 1, 0, 1}, []int{1, 0}, "(app y z)"},
		{"full", "(app (app (lam x x) y) z)", "(tap (app (fun (ax n)) (ax n)) (ax n))", 1, 1, []int{3, 1, 1, 0, 1}, []int{1, 1}, "(app y z)"},
		{"full", "(app y (app (lam x x) z))", "(tap (ax n) (app (fun (ax n)) (ax n)))", 1, 1, []int{3, 1, 1, 0, 1}, []int{1, 1}, "(app y z)"},
		{"both", sames(3, "y"), "(app (fun (ax n)) (app (fun (ax n)) (app (fun (ax n)) (ax n))))", 3, 0, []int{4, 3, 3, 0, 0}, []int{1}, "y"},
		// A name that stands nowhere.
		{"both", "(app (lam x y) z)", "(app (fun (ax n)))", 1, 0, []int{1, 1, 1, 0, 0}, []int{1, 0}, "y"},
		{"both", "(app (lam x y) x)", "(app (fun (ax n)))", 1, 0, []int{1, 1, 1, 0, 0}, []int{1, 0}, "y"},
		{"both", "(app (lam x y) y)", "(app (fun (ax n)))", 1, 0, []int{1, 1, 1, 0, 0}, []int{1}, "y"},
		{"both", "(app (lam x (lam x x)) y)", "(app (fun (tfun (ax n))))", 1, 1, []int{1, 1, 1, 1, 0}, []int{0}, "(lam z0 z0)"},
		// The second term is a redex, or comes to no normal term.
		{"both", "(app (lam x y) (app (lam v v) z))", "(app (fun (ax n)))", 1, 0, []int{1, 1, 1, 0, 0}, []int{1, 0}, "y"},
		{"both", "(app (lam x y) " + endless + ")", "(app (fun (ax n)))", 1, 0, []int{1, 1, 1, 0, 0}, []int{1}, "y"},
		{"both", "(app (lam x (lam w w)) " + growing + ")", "(app (fun (tfun (ax n))))", 1, 1, []int{1, 1, 1, 1, 0}, nil, "(lam z0 z0)"},
		{"both", "(app (app (lam x (lam w x)) y) " + endless + ")", "(app (app (fun (fun (ax n))) (ax n)))", 2, 0, []int{2, 2, 2, 0, 0}, []int{1}, "y"},
		{"both", "(app (app (lam x (lam w w)) " + endless + ") y)", "(app (app (fun (fun (ax n)))) (ax n))", 2, 0, []int{2, 2, 2, 0, 0}, []int{1}, "y"},
		{"full", "(app z (app (lam x y) " + endless + "))", "(tap (ax n) (app (fun (ax n))))", 1, 1, []int{2, 1, 1, 0, 1}, []int{1, 1}, "(app z y)"},
		{"head", "(app z (app (lam x y) (lam v v)))", "(hap (ax n))", 0, 1, []int{1, 0, 0, 0, 1}, []int{1, 0}, "(app z (app (lam z0 y) (lam z1 z1)))"},
		{"full", "(app (lam x (app y x)) (app (lam x z) " + growing + "))", "(app (fun (tap (ax n) (ax n))) (app (fun (ax n))))", 2, 1, []int{3, 2, 2, 0, 1}, []int{1, 1}, "(app y z)"},
		{"full", "(app (lam x (app (lam v y) (app x x))) (app (lam v v) z))", "(app (fun (app (fun (ax n)))))", 2, 0, []int{1, 2, 2, 0, 0}, []int{1, 0}, "y"},
	})
}

// The second term of the redex is derived several times, with equal types and with different ones.
func TestTightOfTwice(t *testing.T) {
	checkTights(t, []tightCase{
		// Equal types.
		{"full", "(app (lam x (app x x)) y)", "(app (fun (tap (ax n) (ax n))) (ax n) (ax n))", 1, 1, []int{4, 1, 1, 0, 1}, []int{2}, "(app y y)"},
		{"head", "(app (lam x (app x x)) y)", "(app (fun (hap (ax n))) (ax n))", 1, 1, []int{2, 1, 1, 0, 1}, []int{1}, "(app y y)"},
		{"full", "(app (lam x (app (app y x) x)) z)", "(app (fun (tap (tap (ax n) (ax n)) (ax n))) (ax n) (ax n))", 1, 2, []int{5, 1, 1, 0, 2}, []int{1, 2}, "(app (app y z) z)"},
		{"head", "(app (lam x (app (app y x) x)) z)", "(app (fun (hap (hap (ax n)))))", 1, 2, []int{1, 1, 1, 0, 2}, []int{1, 0}, "(app (app y z) z)"},
		{"full", "(app (lam x (app (app (app y x) x) x)) z)", "(app (fun (tap (tap (tap (ax n) (ax n)) (ax n)) (ax n))) (ax n) (ax n) (ax n))", 1, 3, []int{7, 1, 1, 0, 3}, []int{1, 3}, "(app (app (app y z) z) z)"},
		{"full", "(app (lam x (app (app y x) x)) (app z w))", "(app (fun (tap (tap (ax n) (ax n)) (ax n))) (tap (ax n) (ax n)) (tap (ax n) (ax n)))", 1, 4, []int{7, 1, 1, 0, 4}, []int{1, 2, 2}, "(app (app y (app z w)) (app z w))"},
		{"both", "(app (lam x (app x (app x y))) (lam z z))", "(app (fun (app (ax (> (m n) n)) (app (ax (> (m n) n)) (ax n)))) (fun (ax n)) (fun (ax n)))", 3, 0, []int{5, 3, 3, 0, 0}, []int{1}, "y"},
		{"full", "(app (app " + two + " y) z)", "(app (app (fun (fun (tap (ax n) (tap (ax n) (ax n))))) (ax n) (ax n)) (ax n))", 2, 2, []int{6, 2, 2, 0, 2}, []int{2, 1}, "(app y (app y z))"},
		{"head", "(app (app " + two + " y) z)", "(app (app (fun (fun (hap (ax n)))) (ax n)))", 2, 1, []int{2, 2, 2, 0, 1}, []int{1, 0}, "(app y (app y z))"},
		// Different ones.
		{"both", "(app (lam x (app x x)) (lam y y))", "(app (fun (app (ax (> (m l) l)) (ax l))) (fun (ax l)) (tfun (ax n)))", 2, 1, []int{4, 2, 2, 1, 0}, nil, "(lam z0 z0)"},
		{"both", "(app (lam x (app (app x x) x)) (lam y y))", "(app (fun (app (app (ax (> (m (> (m l) l)) (> (m l) l))) (ax (> (m l) l))) (ax l))) (fun (ax (> (m l) l))) (fun (ax l)) (tfun (ax n)))",
			3, 1, []int{6, 3, 3, 1, 0}, nil, "(lam z0 z0)"},
		{"full", "(app (lam x (app (app x y) x)) (lam z z))", "(app (fun (tap (app (ax (> (m n) n)) (ax n)) (ax l))) (fun (ax n)) (tfun (ax n)))", 2, 2, []int{5, 2, 2, 1, 1}, []int{1}, "(app y (lam z0 z0))"},
		{"head", "(app (lam x (app (app x y) x)) (lam z z))", "(app (fun (hap (app (ax (> (m n) n)) (ax n)))) (fun (ax n)))", 2, 1, []int{3, 2, 2, 0, 1}, []int{1}, "(app y (lam z0 z0))"},
		// They are sorted by their types, not as they stand in the text.
		{"full", "(app (lam x (app (app y x) (app x z))) (lam w w))", "(app (fun (tap (tap (ax n) (ax l)) (app (ax (> (m n) n)) (ax n)))) (fun (ax n)) (tfun (ax n)))", 2, 3, []int{6, 2, 2, 1, 2}, []int{1, 1}, "(app (app y (lam z0 z0)) z)"},
		{"head", "(app (lam x (app (app y x) (app x z))) (lam w w))", "(app (fun (hap (hap (ax n)))))", 1, 2, []int{1, 1, 1, 0, 2}, []int{1, 0}, "(app (app y (lam z0 z0)) (app (lam z1 z1) z))"},
		// A copy of the second term comes to be within another one of it.
		{"full", "(app (lam x (app (app x x) y)) (lam a (lam b (app a b))))",
			"(app (fun (app (app (ax (> (m (> (m n) l)) (> (m n) l))) (ax (> (m n) l))) (ax n))) (fun (fun (app (ax (> (m n) l)) (ax n)))) (fun (tfun (tap (ax n) (ax n)))))",
			4, 2, []int{7, 4, 4, 1, 1}, []int{1}, "(lam z0 (app y z0))"},
		{"head", "(app (lam x (app (app x x) y)) (lam a (lam b (app a b))))",
			"(app (fun (app (app (ax (> (m (> (m n) l)) (> (m n) l))) (ax (> (m n) l))) (ax n))) (fun (fun (app (ax (> (m n) l)) (ax n)))) (fun (tfun (hap (ax n)))))",
			4, 2, []int{6, 4, 4, 1, 1}, []int{1}, "(lam z0 (app y z0))"},
	})
}

// There are steps in each of the copies, or in some of them.
func TestTightOfCopies(t *testing.T) {
	const yz = "(app (fun (ax n)) (ax n))"
	checkTights(t, []tightCase{
		{"full", "(app (lam x (app (app y x) x)) (app (lam v v) z))", "(app (fun (tap (tap (ax n) (ax n)) (ax n))) " + yz + " " + yz + ")", 3, 2, []int{7, 3, 3, 0, 2}, []int{1, 2}, "(app (app y z) z)"},
		{"head", "(app (lam x (app (app y x) x)) (app (lam v v) z))", "(app (fun (hap (hap (ax n)))))", 1, 2, []int{1, 1, 1, 0, 2}, []int{1, 0}, "(app (app y (app (lam z0 z0) z)) (app (lam z1 z1) z))"},
		{"both", "(app (lam x (app x x)) (app (lam v v) (lam y y)))", "(app (fun (app (ax (> (m l) l)) (ax l))) (app (fun (ax (> (m l) l))) (fun (ax l))) (app (fun (ax l)) (tfun (ax n))))",
			4, 1, []int{6, 4, 4, 1, 0}, nil, "(lam z0 z0)"},
		{"full", "(app (lam x (lam z (app (app z x) x))) (app (lam v v) y))", "(app (fun (tfun (tap (tap (ax n) (ax n)) (ax n)))) " + yz + " " + yz + ")", 3, 3, []int{7, 3, 3, 1, 2}, []int{2}, "(lam z0 (app (app z0 y) y))"},
		{"full", "(app (lam x (app (app y x) x)) (lam z (app (lam v v) z)))", "(app (fun (tap (tap (ax n) (ax l)) (ax l))) (tfun " + yz + ") (tfun " + yz + "))", 3, 4, []int{7, 3, 3, 2, 2}, []int{1}, "(app (app y (lam z0 z0)) (lam z1 z1))"},
		// One of both goes with a second term that is not used.
		{"full", "(app (lam x (app (lam z (app y x)) x)) (app (lam v v) w))", "(app (fun (app (fun (tap (ax n) (ax n))))) " + yz + ")", 3, 1, []int{4, 3, 3, 0, 1}, []int{1, 1}, "(app y w)"},
		{"head", "(app (lam x (app (lam z (app y x)) x)) (app (lam v v) w))", "(app (fun (app (fun (hap (ax n))))))", 2, 1, []int{1, 2, 2, 0, 1}, []int{1, 0}, "(app y (app (lam z0 z0) w))"},
		// One of both is on the left.
		{"head", "(app (lam x (app x x)) (app (lam v v) y))", "(app (fun (hap (ax n))) " + yz + ")", 2, 1, []int{3, 2, 2, 0, 1}, []int{1}, "(app y (app (lam z0 z0) y))"},
		{"full", "(app (lam x (app x x)) (app (lam v v) y))", "(app (fun (tap (ax n) (ax n))) " + yz + " " + yz + ")", 3, 1, []int{6, 3, 3, 0, 1}, []int{2}, "(app y y)"},
		// Copies of copies.
		{"full", "(app (lam x (app (app y x) x)) (app (lam x (app (app y x) x)) z))",
			"(app (fun (tap (tap (ax n) (ax n)) (ax n))) (app (fun (tap (tap (ax n) (ax n)) (ax n))) (ax n) (ax n)) (app (fun (tap (tap (ax n) (ax n)) (ax n))) (ax n) (ax n)))",
			3, 6, []int{13, 3, 3, 0, 6}, []int{3, 4}, "(app (app y (app (app y z) z)) (app (app y z) z))"},
	})
}

// How many types the bags of the free names have, in the order in which these stand in the term, not in the normal one.
func TestTightShares(t *testing.T) {
	checkTights(t, []tightCase{
		{"both", "(app (app (lam x (lam w x)) y) z)", "(app (app (fun (fun (ax n))) (ax n)))", 2, 0, []int{2, 2, 2, 0, 0}, []int{1, 0}, "y"},
		{"both", "(app (app (lam x (lam w w)) y) z)", "(app (app (fun (fun (ax n)))) (ax n))", 2, 0, []int{2, 2, 2, 0, 0}, []int{0, 1}, "z"},
		{"both", "(app (app (app (lam x (lam v (lam w v))) y) z) u)", "(app (app (app (fun (fun (fun (ax n))))) (ax n)))", 3, 0, []int{2, 3, 3, 0, 0}, []int{0, 1, 0}, "z"},
		{"full", "(app (app y z) (app (lam x y) w))", "(tap (tap (ax n) (ax n)) (app (fun (ax n))))", 1, 2, []int{3, 1, 1, 0, 2}, []int{2, 1, 0}, "(app (app y z) y)"},
		{"full", "(app (app (lam x (lam w (app (app w x) w))) b) a)", "(app (app (fun (fun (tap (tap (ax n) (ax n)) (ax n)))) (ax n)) (ax n) (ax n))", 2, 2, []int{6, 2, 2, 0, 2}, []int{1, 2}, "(app (app a b) a)"},
		{"head", "(app (app (lam x (lam w (app (app w x) w))) b) a)", "(app (app (fun (fun (hap (hap (ax n)))))) (ax n))", 2, 2, []int{2, 2, 2, 0, 2}, []int{0, 1}, "(app (app a b) a)"},
		// Free in one place and bound in another one.
		{"full", "(app x (lam x (app x y)))", "(tap (ax n) (tfun (tap (ax n) (ax n))))", 0, 3, []int{3, 0, 0, 1, 2}, []int{1, 1}, "(app x (lam z0 (app z0 y)))"},
		{"full", "(app (lam x (app y (app y x))) (app x x))", "(app (fun (tap (ax n) (tap (ax n) (ax n)))) (tap (ax n) (ax n)))", 1, 3, []int{5, 1, 1, 0, 3}, []int{2, 2}, "(app y (app y (app x x)))"},
		// Without free names.
		{"both", "(app (lam x (lam y y)) (lam x x))", "(app (fun (tfun (ax n))))", 1, 1, []int{1, 1, 1, 1, 0}, nil, "(lam z0 z0)"},
		{"both", "(app (lam x x) (lam x x))", "(app (fun (ax l)) (tfun (ax n)))", 1, 1, []int{2, 1, 1, 1, 0}, nil, "(lam z0 z0)"},
	})
}

// Many steps: all of them within StepsMax, or one more.
func TestTightOfSteps(t *testing.T) {
	for _, kind := range kinds() {
		for _, n := range []int{1, 2, 10, 98} {
			checkTight(t, tightCase{kind, sames(n, "y"), strings.Repeat("(app (fun (ax n)) ", n) + "(ax n)" + strings.Repeat(")", n), n, 0, []int{n + 1, n, n, 0, 0}, []int{1}, "y"})
		}
		for _, n := range []int{1, 2, 10, 48} {
			checkTight(t, tightCase{kind, block(n, "y"), blockProof(n, "(ax n)", "n"), n + 1, 0, []int{2*n + 1, n + 1, n + 1, 0, 0}, []int{1}, "y"})
			checkTight(t, tightCase{kind, block(n, same), blockProof(n, "(tfun (ax n))", "l"), n + 1, 1, []int{2*n + 1, n + 1, n + 1, 1, 0}, nil, "(lam z0 z0)"})
		}
		for more := 19; more <= 22; more++ {
			s, d := lossies(more)
			if n := 180 + more; n <= impl.StepsMax {
				checkTightOf(t, tightCase{kind, s, d, n, 0, []int{51 + more, n, n, 0, 0}, []int{1, 0}, "y"})
			} else {
				checkNotTight(t, kind, s)
			}
		}
		checkNotTight(t, kind, waits(impl.StepsMax+1))
	}
}

// lossies takes 180 + more steps to y: five times a term is used five times that loses a name six times.
func lossies(more int) (string, string) {
	s := sames(more, "y")
	d := strings.Repeat("(app (fun (ax n)) ", more) + "(ax n)" + strings.Repeat(")", more)
	for range 5 {
		s = "(app (lam f " + strings.Repeat("(app f ", 5) + s + strings.Repeat(")", 5) + ") (lam a " + strings.Repeat("(app (lam b ", 6) + "a" + strings.Repeat(") u)", 6) + "))"
		put := " (fun " + strings.Repeat("(app (fun ", 6) + "(ax n)" + strings.Repeat("))", 6) + ")"
		d = "(app (fun " + strings.Repeat("(app (ax (> (m n) n)) ", 5) + d + strings.Repeat(")", 6) + strings.Repeat(put, 5) + ")"
	}
	return s, d
}

// NormalOf fails: there is no normal term, or a step on the way has a result that is no term.
func TestTightOfNoNormal(t *testing.T) {
	for _, s := range []string{endless, growing, "(lam x " + endless + ")", "(app " + endless + " x)", "(lam y (app " + growing + " y))", "(app (lam x (app x x)) " + leftApps(100) + ")",
		"(lam y (app (lam x (app x x)) " + leftApps(99) + "))", "(app (lam z z) (app (lam x (app x x)) " + leftApps(100) + "))"} {
		for _, kind := range kinds() {
			checkNotTight(t, kind, s)
			checkNoTightNormal(t, kind, s)
		}
	}
	// For head, what is in second terms does not matter.
	for _, within := range []string{endless, growing, "(app (lam x (app x x)) " + leftApps(100) + ")", waits(impl.StepsMax + 1), block(50, "y")} {
		s := "(app w " + within + ")"
		checkNotTight(t, "full", s)
		if d, ok := impl.TightOf("head", s); !ok || d != "(hap (ax n))" {
			t.Errorf("TightOf head of %.80q returned %.80q, %v", s, d, ok)
		}
		s = "(app (lam x (app w x)) " + within + ")"
		checkNotTight(t, "full", s)
		if d, ok := impl.TightOf("head", s); !ok || d != "(app (fun (hap (ax n))))" {
			t.Errorf("TightOf head of %.80q returned %.80q, %v", s, d, ok)
		}
	}
}

// Just NodesMax nodes, and one more.
func TestTightOfNodesMax(t *testing.T) {
	t.Parallel()
	for _, kind := range kinds() {
		for _, uses := range [][]int{{44, 40, 40, 20}, {48, 48, 24, 24}} {
			for lams := 15; lams <= 16; lams++ {
				s, d := blocks(uses, lams, "y"), blocksProof(uses, lams, "(ax n)", "n")
				nodes := 4*144 + 2*4 + 1 + lams
				if nodes > impl.NodesMax {
					checkNotTight(t, kind, s)
					checkBehind(t, kind, s, 148, lams)
					continue
				}
				checkNodes(t, kind, d, nodes)
				checkTightOf(t, tightCase{kind: kind, s: s, d: d, steps: 148, size: lams, shape: []int{2*144 + 1, 148, 148, lams, 0}, shares: []int{1}})
			}
		}
	}
}

// checkBehind expects the term behind a step to have a tight derivation, with one step less than there are.
func checkBehind(t *testing.T, kind, s string, steps, size int) {
	t.Helper()
	next, _ := impl.StepOf(kind, s)
	if n, m, ok := impl.TightBounds(kind, next); !ok || n != steps-1 || m != size {
		t.Errorf("TightBounds %s of %.80q, behind %.80q, returned %d, %d, %v", kind, next, s, n, m, ok)
	}
}

// A type or a bag has more than TypeMax atoms on the way back, some steps behind the term.
func TestTightOfTypeMax(t *testing.T) {
	for _, kind := range kinds() {
		for n := 48; n <= 51; n++ {
			// The bag of the name has 4n+1 atoms, the type of the lam two more.
			s, d := block(n, "y"), blockProof(n, "(ax n)", "n")
			checkTypeMax(t, kind, s, d, n+1, 4*n+3 <= impl.TypeMax)
			checkTypeMax(t, kind, sames(3, s), "(app (fun (ax n)) (app (fun (ax n)) (app (fun (ax n)) "+d+")))", n+4, 4*n+3 <= impl.TypeMax)
			// Or four more, for a lam around another one.
			s = "(app (app (lam f (lam g " + strings.Repeat("(app f ", n) + "y" + strings.Repeat(")", n+2) + " " + same + ") x)"
			d = "(app (app (fun (fun " + strings.Repeat("(app (ax (> (m n) n)) ", n) + "(ax n)" + strings.Repeat(")", n+2) + strings.Repeat(" (fun (ax n))", n) + "))"
			checkTypeMax(t, kind, s, d, n+2, 4*n+5 <= impl.TypeMax)
			// With the name itself as the last one, the bag has one atom more.
			s, d = "(app (lam f "+strings.Repeat("(app f ", n)+"f"+strings.Repeat(")", n)+") "+same+")", blockProof(n, "(ax l)", "l")
			checkTypeMax(t, kind, s, d[:len(d)-1]+" (tfun (ax n)))", n+1, 4*n+4 <= impl.TypeMax)
		}
	}
}

func checkTypeMax(t *testing.T, kind, s, d string, steps int, ok bool) {
	t.Helper()
	if normal, n, okNormal := impl.NormalOf(kind, s); !okNormal || n != steps || impl.TermSize(normal) > 1 {
		t.Fatalf("NormalOf %s of %.80q returned %q, %d, %v", kind, s, normal, n, okNormal)
	}
	if !ok {
		checkNotTight(t, kind, s)
		return
	}
	if got, ok := impl.TightOf(kind, s); !ok || got != d {
		t.Errorf("TightOf %s of %.80q returned %.200q, %v, not %.200q", kind, s, got, ok, d)
	}
	if n, _, ok := impl.TightBounds(kind, s); !ok || n != steps {
		t.Errorf("TightBounds %s of %.80q returned %d, %v", kind, s, n, ok)
	}
}

// A derivation has at most TextMax bytes.
func TestTightOfTextMax(t *testing.T) {
	t.Parallel()
	found := map[int]bool{}
	for last := range 6 {
		for lost := range 7 {
			for lams := range 14 {
				s, d := longTight(last+1, lost, lams)
				if len(d) < impl.TextMax-1 || len(d) > impl.TextMax+1 || found[len(d)] {
					continue
				}
				found[len(d)] = true
				for _, kind := range kinds() {
					if len(d) > impl.TextMax {
						checkNotTight(t, kind, s)
						checkBehind(t, kind, s, 123+last+lost, lams)
					} else if got, ok := impl.TightOf(kind, s); !ok || got != d {
						t.Errorf("TightOf %s of %d bytes returned %.80q, %v", kind, len(d), got, ok)
					}
				}
			}
		}
	}
	if len(found) != 3 {
		t.Errorf("the derivations have %v bytes", found)
	}
}

// longTight has blocks with long types, which take 122+last steps together, and around them app that lose a term and lams.
func longTight(last, lost, lams int) (string, string) {
	uses := []int{last, 19, 19, 19, 19, 19, 19}
	s := strings.Repeat("(app (lam b ", lost) + "(app " + blocks(uses, 0, same) + " y)" + strings.Repeat(") u)", lost)
	d := strings.Repeat("(app (fun ", lost) + "(app " + blocksProof(uses, 0, "(fun (ax n))", "(> (m n) n)") + " (ax n))" + strings.Repeat("))", lost)
	return strings.Repeat("(lam v ", lams) + s + strings.Repeat(")", lams), strings.Repeat("(tfun ", lams) + d + strings.Repeat(")", lams)
}

func TestTightEqual(t *testing.T) {
	for _, c := range []struct {
		a, b       string
		head, full bool
	}{
		// A term and what it steps to.
		{"(app (lam x x) y)", "y", true, true},
		{"(app (lam x (app x x)) (lam y y))", "(app (lam z0 z0) (lam z1 z1))", true, true},
		{"(app (lam x y) " + endless + ")", "y", true, true},
		{sames(50, "y"), block(20, "y"), true, true},
		{"(app x (app (lam y y) z))", "(app x z)", false, true},
		{"(lam x (app x (app (lam y y) x)))", "(lam y (app y y))", false, true},
		{"(app (lam z (app x z)) (app (lam y y) z))", "(app x (app (lam y y) z))", true, true},
		// Alike terms with other bound names.
		{"x", "x", true, true},
		{"(lam x x)", "(lam y y)", true, true},
		{"(lam x (lam y (app x y)))", "(lam y (lam x (app y x)))", true, true},
		{"(lam z1 (app z0 z1))", "(lam z2 (app z0 z2))", true, true},
		{"(lam z0 z0)", "(lam x1 x1)", true, true},
		{"(app x (app (lam y y) z))", "(app x (app (lam w w) z))", true, true},
		{"(app (lam x (lam y x)) y)", "(lam x y)", true, true},
		// Different normal terms.
		{"x", "y", false, false},
		{"(lam x x)", "(lam x y)", false, false},
		{"(lam x (lam y x))", "(lam x (lam y y))", false, false},
		{"(lam x (app y x))", "y", false, false},
		{"(app x y)", "(app y x)", false, false},
		{"(app (lam x x) y)", "(app (lam x x) z)", false, false},
		{"(app (lam x (lam y x)) y)", "(lam y y)", false, false},
		{"(app x " + same + ")", "(app x y)", false, false},
		// One of both, or each one, has no tight derivation, though the normal terms may be alike.
		{"(app x " + endless + ")", "(app x " + endless + ")", true, false},
		{"(app x " + endless + ")", "(app x (app (lam y (app y y)) (lam z (app z z))))", true, false},
		{endless, endless, false, false},
		{endless, "(app (lam y (app y y)) (lam z (app z z)))", false, false},
		{block(50, "y"), "y", false, false},
		{block(50, "y"), block(50, "y"), false, false},
		{block(50, "y"), block(49, "y"), false, false},
		{waits(185), "y", false, false},
		{rightApps(199), rightApps(199), true, false},
		{"(app x " + block(50, "y") + ")", "(app x y)", false, false},
		{"y", "", false, false},
		{"", "", false, false},
		{"(lam x)", "(lam x)", false, false},
	} {
		for kind, want := range map[string]bool{"head": c.head, "full": c.full} {
			if got := impl.TightEqual(kind, c.a, c.b); got != want {
				t.Errorf("TightEqual %s of %.80q and %.80q is %v", kind, c.a, c.b, got)
			}
			if got := impl.TightEqual(kind, c.b, c.a); got != want {
				t.Errorf("TightEqual %s of %.80q and %.80q is %v", kind, c.b, c.a, got)
			}
		}
	}
}

func TestTightInvalid(t *testing.T) {
	for _, kind := range kinds() {
		for _, s := range noTerms() {
			checkNoTightNormal(t, kind, s)
			checkNotTight(t, kind, s)
		}
	}
	for _, kind := range noKinds() {
		for _, s := range []string{"x", "(lam x x)", "(app x y)", "(app (lam x x) y)", endless, "", "xy", "(lam x)"} {
			checkNoTightNormal(t, kind, s)
			checkNotTight(t, kind, s)
		}
	}
}

// Results are new memory: what is done to one changes no other one.
func TestTightResults(t *testing.T) {
	kind, s := strings.Clone("full"), strings.Clone("(app (app y (lam x x)) (app z y))")
	var results []string
	for range 2 {
		normal, _ := impl.TightNormal(kind, s)
		whole, _ := impl.TightOf(kind, s)
		results = append(results, normal, whole)
	}
	for i, result := range results {
		if result != "(tap (tap (ax n) (tfun (ax n))) (tap (ax n) (ax n)))" || shareMemory(result, s) || shareMemory(result, kind) {
			t.Errorf("result %d is %q, or shares memory with an argument", i, result)
		}
		for k, other := range results[:i] {
			if shareMemory(result, other) {
				t.Errorf("results %d and %d share memory", i, k)
			}
		}
	}
	checkNumbers(t, func() []int { list, _ := impl.TightShape(kind, s); return list }, []int{4, 0, 0, 1, 3})
	checkNumbers(t, func() []int { list, _ := impl.TightShares(kind, s); return list }, []int{2, 1})
}

// checkNumbers expects each call to return these numbers, in memory of its own.
func checkNumbers(t *testing.T, call func() []int, want []int) {
	t.Helper()
	first, second := call(), call()
	all := first[:cap(first)]
	for i := range all {
		all[i] = -1
	}
	if third := call(); !slices.Equal(second, want) || !slices.Equal(third, want) || unsafe.SliceData(second) == unsafe.SliceData(third) {
		t.Errorf("results share memory: %v, %v", second, third)
	}
}
