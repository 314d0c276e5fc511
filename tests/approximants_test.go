package tests

import (
	"slices"
	"strings"
	"testing"

	"loop.example/intersectiontypes/impl"
)

// noApproxes are texts that are no approximants.
func noApproxes() []string {
	list := []string{
		// om with something behind it, or within a lam, at the head and deeper.
		"(app om x)", "(app om om)", "(app om (lam x x))", "(app (app om x) y)", "(app x (app om y))", "(app (app x (app om y)) z)", "(lam x (app om x))", "(app x (app y (lam z (app om z))))",
		"(lam x om)", "(lam x (lam y om))", "(app x (lam y om))", "(app (app x (lam y om)) z)", "(lam x (app x (lam y om)))", "(app x (app y (lam z (lam v om))))", "(app (lam x om) y)", "(app om (lam x om))",
		// A redex, at the head and deeper.
		"(app (lam x x) y)", "(app (lam x x) om)", "(app (lam x (app x om)) y)", "(app (app (lam x x) y) z)", "(lam z (app (lam x x) y))", "(app x (app (lam y y) z))", "(app x (lam z (app (lam y y) z)))", "(app (app x (app (lam y y) om)) om)", endless, growing,
		// om in the place of a name or a word, and words that are none.
		"(lam om om)", "(lam om x)", "(app x (lam om x))", "(lam x (lam om x))", "(om x y)", "(om)", "(om om)", "(om om om)", "((om) om)", "(lam x)", "(lam om)", "(app om)", "(app x om om)", "(app (om) x)", "(app x (om))", "(lam x (om))",
		"Om", "oM", "omm", "om1", "1om", "om>", "oom", "mo", "Ω", "(app x Om)", "(app x omm)", "(app x om1)", "(app x o m)",
		" om", "om ", "om\n", "(app x  om)", "(app  x om)", "(app x om )", "( app x om)", "(app x om) ", " (app x om)", "(app x om", "app x om)", "(app x om))", "((app x om)", "(app x\tom)", "(app(app x om) om)", "(app x om)om", "om om", "om)", "(om", "()", "(app x ())",
		// One atom more than there may be, and more.
		holesOf(200), "(app x " + holesOf(199) + ")", "(lam x " + holesOf(199) + ")", strings.Repeat("(app x ", 200) + "om" + strings.Repeat(")", 200), strings.Repeat("(lam x ", 200) + "x" + strings.Repeat(")", 200),
		holesOf(300), holesOf(301), strings.Repeat("om", impl.TextMax/2), strings.Repeat("om", impl.TextMax/2) + "o", "(app x " + strings.Repeat("om ", 3000) + "om)",
	}
	for _, s := range noTerms() {
		if s != "om" {
			list = append(list, s)
		}
	}
	return list
}

// holesOf is x with n times om behind it: an approximant of 2n+1 atoms.
func holesOf(n int) string {
	return strings.Repeat("(app ", n) + "x" + strings.Repeat(" om)", n)
}

// checkApprox asks all that is told of one approximant.
func checkApprox(t *testing.T, s string, holes int, canon string) {
	t.Helper()
	if !impl.ApproxValid(s) {
		t.Errorf("ApproxValid of %.100q does not hold", s)
	}
	if n := impl.ApproxHoles(s); n != holes {
		t.Errorf("ApproxHoles of %.100q returned %d, not %d", s, n, holes)
	}
	checkPair(t, s, s, true, true, canon)
	checkPair(t, s, canon, true, true, canon)
	checkPair(t, s, "om", s == "om", true, "om")
	got, ok := impl.ApproxTerm(s)
	if holes > 0 && (ok || got != "") || holes == 0 && (!ok || got != canon) {
		t.Errorf("ApproxTerm of %.100q returned %.100q, %v", s, got, ok)
	}
}

// checkPair asks all that is told of two approximants: whether the first one is below, or the second one, and their meet.
func checkPair(t *testing.T, a, b string, below, above bool, meet string) {
	t.Helper()
	if got := impl.ApproxBelow(a, b); got != below {
		t.Errorf("ApproxBelow of %.100q and %.100q is %v", a, b, got)
	}
	if got := impl.ApproxBelow(b, a); got != above {
		t.Errorf("ApproxBelow of %.100q and %.100q is %v", b, a, got)
	}
	if got, ok := impl.ApproxMeet(a, b); !ok || got != meet {
		t.Errorf("ApproxMeet of %.100q and %.100q returned %.100q, %v, not %.100q", a, b, got, ok, meet)
	}
	if got, ok := impl.ApproxMeet(b, a); !ok || got != meet {
		t.Errorf("ApproxMeet of %.100q and %.100q returned %.100q, %v, not %.100q", b, a, got, ok, meet)
	}
}

// checkNoApprox expects all functions of approximants to fail, beside each other text.
func checkNoApprox(t *testing.T, s string) {
	t.Helper()
	if impl.ApproxValid(s) {
		t.Errorf("ApproxValid of %.60q holds", s)
	}
	if n := impl.ApproxHoles(s); n != -1 {
		t.Errorf("ApproxHoles of %.60q returned %d", s, n)
	}
	if got, ok := impl.ApproxTerm(s); ok || got != "" {
		t.Errorf("ApproxTerm of %.60q returned %.60q, %v", s, got, ok)
	}
	for _, pair := range [][2]string{{s, "om"}, {"om", s}, {s, "x"}, {"(app x om)", s}, {s, s}} {
		if impl.ApproxBelow(pair[0], pair[1]) {
			t.Errorf("ApproxBelow of %.60q and %.60q holds", pair[0], pair[1])
		}
		if got, ok := impl.ApproxMeet(pair[0], pair[1]); ok || got != "" {
			t.Errorf("ApproxMeet of %.60q and %.60q returned %.60q, %v", pair[0], pair[1], got, ok)
		}
	}
}

func TestApproxValid(t *testing.T) {
	for _, c := range []struct {
		s     string
		holes int
		canon string
	}{
		{"om", 1, "om"},
		{"x", 0, "x"},
		{"x123", 0, "x123"},
		{"z0", 0, "z0"},
		{"o", 0, "o"},
		{"m0", 0, "m0"},
		{"(app x om)", 1, "(app x om)"},
		{"(app x x)", 0, "(app x x)"},
		{"(app (app x om) om)", 2, "(app (app x om) om)"},
		{"(app (app x om) y)", 1, "(app (app x om) y)"},
		{"(app x (app y om))", 1, "(app x (app y om))"},
		{"(app x (lam y y))", 0, "(app x (lam z0 z0))"},
		{"(app x (lam y (app y om)))", 1, "(app x (lam z0 (app z0 om)))"},
		{"(app x (lam y (app x om)))", 1, "(app x (lam z0 (app x om)))"},
		{"(lam x x)", 0, "(lam z0 z0)"},
		{"(lam x y)", 0, "(lam z0 y)"},
		{"(lam x (app x om))", 1, "(lam z0 (app z0 om))"},
		{"(lam x (app y om))", 1, "(lam z0 (app y om))"},
		{"(lam o (app o om))", 1, "(lam z0 (app z0 om))"},
		{"(lam m (lam o (app m om)))", 1, "(lam z0 (lam z1 (app z0 om)))"},
		{"(lam x (lam x (app (app x om) (lam x (app (app x om) om)))))", 3, "(lam z0 (lam z1 (app (app z1 om) (lam z2 (app (app z2 om) om)))))"},
		{"(lam x (app (app z0 om) x))", 1, "(lam z1 (app (app z0 om) z1))"},
		{"(app (app (app x (app y (app om0 om))) z) om)", 0, ""},
		{"(app (app (app x (app y (app o0 om))) z) om)", 2, "(app (app (app x (app y (app o0 om))) z) om)"},
		{"(app (app z1 (lam a a)) (lam a (app (app a om) z0)))", 1, "(app (app z1 (lam z2 z2)) (lam z3 (app (app z3 om) z0)))"},
	} {
		if c.canon == "" {
			checkNoApprox(t, c.s)
			continue
		}
		checkApprox(t, c.s, c.holes, c.canon)
	}
}

func TestApproxNone(t *testing.T) {
	for _, s := range noApproxes() {
		checkNoApprox(t, s)
	}
}

// An approximant has an odd number of atoms, as a term has: 399 at most.
func TestApproxTermMax(t *testing.T) {
	for _, c := range []struct {
		s     string
		holes int
	}{
		{holesOf(199), 199},
		{holesOf(198), 198},
		{"(app x " + holesOf(198) + ")", 198},
		{leftApps(199), 0},
		{rightApps(199), 0},
		{strings.Repeat("(app x ", 199) + "om" + strings.Repeat(")", 199), 1},
		{"(app " + leftApps(198) + " om)", 1},
	} {
		checkApprox(t, c.s, c.holes, c.s)
	}
	checkApprox(t, deepLams(199), 0, canonOf(t, deepLams(199)))
	lams := strings.Repeat("(lam x ", 198) + "(app x om)" + strings.Repeat(")", 198)
	checkApprox(t, lams, 1, strings.ReplaceAll(canonOf(t, strings.ReplaceAll(lams, "om", "y")), " y)", " om)"))
	for _, s := range []string{holesOf(200), "(app " + holesOf(199) + " om)", "(app x " + holesOf(199) + ")", "(lam x " + holesOf(199) + ")", "(lam x " + lams + ")", leftApps(200)} {
		checkNoApprox(t, s)
	}
}

func TestApproxPairs(t *testing.T) {
	for _, c := range []struct {
		a, b         string
		below, above bool
		meet         string
	}{
		{"om", "om", true, true, "om"},
		{"om", "x", true, false, "om"},
		{"om", "(lam x x)", true, false, "om"},
		{"om", "(app x om)", true, false, "om"},
		{"x", "x", true, true, "x"},
		// Names.
		{"x", "y", false, false, "om"},
		{"x", "x1", false, false, "om"},
		{"x", "(app x y)", false, false, "om"},
		{"x", "(lam x x)", false, false, "om"},
		{"(app x y)", "(lam x y)", false, false, "om"},
		{"(app x a)", "(app y a)", false, false, "om"},
		{"(app x a)", "(app y om)", false, false, "om"},
		{"(app z (app x a))", "(app z (app y a))", false, false, "(app z om)"},
		// Second terms.
		{"(app x om)", "(app x y)", true, false, "(app x om)"},
		{"(app x om)", "(app x (app y om))", true, false, "(app x om)"},
		{"(app x om)", "(app x (lam y y))", true, false, "(app x om)"},
		{"(app x y)", "(app x z)", false, false, "(app x om)"},
		{"(app x (app y om))", "(app x (app y (app z om)))", true, false, "(app x (app y om))"},
		{"(app (app x om) z)", "(app (app x y) z)", true, false, "(app (app x om) z)"},
		{"(app (app x om) z)", "(app (app x y) om)", false, false, "(app (app x om) om)"},
		{"(app (app x y) z)", "(app (app x y) a)", false, false, "(app (app x y) om)"},
		{"(app (app x y) z)", "(app (app x a) z)", false, false, "(app (app x om) z)"},
		{"(app (app x y) z)", "(app (app x z) y)", false, false, "(app (app x om) om)"},
		{"(app (app x (app y a)) (app y b))", "(app (app x (app y b)) (app y b))", false, false, "(app (app x (app y om)) (app y b))"},
		// The number of second terms.
		{"(app x y)", "(app (app x y) z)", false, false, "om"},
		{"(app x om)", "(app (app x om) om)", false, false, "om"},
		{"(app (app x y) z)", "(app (app (app x y) z) om)", false, false, "om"},
		{"(app a (app x y))", "(app a (app (app x y) z))", false, false, "(app a om)"},
		{"(app (app a x) (app x y))", "(app (app a x) x)", false, false, "(app (app a x) om)"},
		// Bound names.
		{"(lam x x)", "(lam y y)", true, true, "(lam z0 z0)"},
		{"(lam x (lam y x))", "(lam y (lam x y))", true, true, "(lam z0 (lam z1 z0))"},
		{"(lam x (lam y x))", "(lam x (lam y y))", false, false, "om"},
		{"(lam x (lam x x))", "(lam x (lam y y))", true, true, "(lam z0 (lam z1 z1))"},
		{"(lam x (lam x x))", "(lam x (lam y x))", false, false, "om"},
		{"(lam x (app x om))", "(lam y (app y y))", true, false, "(lam z0 (app z0 om))"},
		{"(lam x (app x x))", "(lam y (app y z))", false, false, "(lam z0 (app z0 om))"},
		{"(app a (lam x (app x om)))", "(app a (lam y (app y (lam x y))))", true, false, "(app a (lam z0 (app z0 om)))"},
		{"(lam x (lam y (app a x)))", "(lam y (lam x (app a x)))", false, false, "(lam z0 (lam z1 (app a om)))"},
		{"(lam x (app x (lam y (app (app y x) om))))", "(lam y (app y (lam x (app (app x y) x))))", true, false, "(lam z0 (app z0 (lam z1 (app (app z1 z0) om))))"},
		// A bound name against a free one with the same text.
		{"(lam x x)", "(lam y x)", false, false, "om"},
		{"(lam x y)", "(lam y y)", false, false, "om"},
		{"(lam x (app a x))", "(lam y (app a x))", false, false, "(lam z0 (app a om))"},
		{"(lam z0 (app a z0))", "(lam x (app a z0))", false, false, "(lam z0 (app a om))"},
		{"(app a (lam x x))", "(app a (lam y x))", false, false, "(app a om)"},
		{"(lam x (app (app a x) y))", "(lam y (app (app a x) y))", false, false, "(lam z0 (app (app a om) om))"},
		// Lams around.
		{"(lam x x)", "(lam x (lam y x))", false, false, "om"},
		{"(lam x (app y om))", "(app y om)", false, false, "om"},
		{"(lam x (app a b))", "(lam x (app c b))", false, false, "om"},
		{"(lam x (lam y (app a b)))", "(lam x (lam y (app c b)))", false, false, "om"},
		{"(app x (lam y a))", "(app x (lam y b))", false, false, "(app x om)"},
		{"(lam v (app v (lam x (lam y (app a b)))))", "(lam v (app v (lam x (lam y a))))", false, false, "(lam z0 (app z0 om))"},
		{"(app (app x (lam y a)) (lam y (app a b)))", "(app (app x (lam y b)) (lam y (app a om)))", false, false, "(app (app x om) (lam z0 (app a om)))"},
		// Names that are free in one, and not in the meet.
		{"(lam v (app v z0))", "(lam v (app v y))", false, false, "(lam z0 (app z0 om))"},
		{"(lam v (app (app v z0) z1))", "(lam v (app (app v z0) z2))", false, false, "(lam z1 (app (app z1 z0) om))"},
		{"(lam z0 (app z0 om))", "(lam z1 (app z1 z0))", true, false, "(lam z0 (app z0 om))"},
	} {
		checkPair(t, c.a, c.b, c.below, c.above, c.meet)
		// Deeper, beside what is the same, and within a lam.
		if c.meet == "om" {
			if c.a != "om" {
				checkPair(t, "(lam q "+c.a+")", "(lam q "+c.b+")", false, false, "om")
			}
			continue
		}
		meet := strings.ReplaceAll(c.meet, "om", "q3")
		meet = strings.ReplaceAll(canonOf(t, "(app (app q "+meet+") (lam q2 "+meet+"))"), "q3", "om")
		checkPair(t, "(app (app q "+c.a+") (lam q1 "+c.a+"))", "(app (app q "+c.b+") (lam q2 "+c.b+"))", c.below, c.above, meet)
	}
}

func TestApproxOf(t *testing.T) {
	for _, c := range []struct{ s, want string }{
		// A head step, in each place where it is.
		{"(app (lam x x) y)", "om"},
		{"(lam z (app (lam x x) y))", "om"},
		{"(lam z (lam v (app (app (lam x x) z) v)))", "om"},
		{"(app (app (lam x x) y) z)", "om"},
		{"(app (lam x (app x x)) (lam y y))", "om"},
		{endless, "om"},
		// Normal terms.
		{"x", "x"},
		{"(lam x x)", "(lam z0 z0)"},
		{"(app x y)", "(app x y)"},
		{"(lam x (app (app x (lam y x)) y))", "(lam z0 (app (app z0 (lam z1 z0)) y))"},
		{two, "(lam z0 (lam z1 (app z0 (app z0 z1))))"},
		// Second terms with one.
		{"(app x (app (lam y y) z0))", "(app x om)"},
		{"(app x " + endless + ")", "(app x om)"},
		{"(app (app x (app (lam y y) z)) z)", "(app (app x om) z)"},
		{"(app (app x z) (app (lam y y) z))", "(app (app x z) om)"},
		{"(app (app x (app (lam y y) z)) (app (lam y y) z))", "(app (app x om) om)"},
		{"(app x (lam z (app (lam y y) z)))", "(app x om)"},
		{"(app x (lam z (lam v (app (lam y y) z))))", "(app x om)"},
		{"(app x (app z (app (lam y y) z)))", "(app x (app z om))"},
		{"(app x (lam z (app z (app (lam y y) z))))", "(app x (lam z0 (app z0 om)))"},
		{"(app x (app (app (lam y y) z) a))", "(app x om)"},
		{"(app x (app (app z a) (app (lam y y) z)))", "(app x (app (app z a) om))"},
		// Within several lams.
		{"(lam x (lam y (lam z (app y (app (lam v v) x)))))", "(lam z0 (lam z1 (lam z2 (app z1 om))))"},
		{"(lam x (lam y (app (app x (lam v (app v (app (lam w w) y)))) (app (lam w w) v))))", "(lam z0 (lam z1 (app (app z0 (lam z2 (app z2 om))) om)))"},
		{"(lam x (lam y (lam z (app (lam v v) x))))", "om"},
		// The names that are free in the direct approximant are left out, and those in its om are gone.
		{"(lam x (app x z0))", "(lam z1 (app z1 z0))"},
		{"(lam x (app x (app (lam y y) z0)))", "(lam z0 (app z0 om))"},
		{"(lam x (app (app x (app (lam y y) z0)) z1))", "(lam z0 (app (app z0 om) z1))"},
		{"(app (app x (app (lam z0 z0) y)) (lam y y))", "(app (app x om) (lam z0 z0))"},
		{"(lam x (app (lam y y) z0))", "om"},
	} {
		if got, ok := impl.ApproxOf(c.s); !ok || got != c.want {
			t.Errorf("ApproxOf of %q returned %q, %v, not %q", c.s, got, ok, c.want)
		}
	}
	for _, s := range []string{leftApps(199), rightApps(199), deepLams(199)} {
		if got, ok := impl.ApproxOf(s); !ok || got != canonOf(t, s) {
			t.Errorf("ApproxOf of %.80q returned %.80q, %v", s, got, ok)
		}
	}
	for _, s := range noTerms() {
		if got, ok := impl.ApproxOf(s); ok || got != "" {
			t.Errorf("ApproxOf of %.60q returned %.60q, %v", s, got, ok)
		}
	}
}

// checkTrees expects trees for the depths from 1 on; the last one stays for all greater depths.
func checkTrees(t *testing.T, s string, want ...string) {
	t.Helper()
	want = append([]string{"om"}, want...)
	for depth := 0; depth <= 6; depth++ {
		one := want[min(depth, len(want)-1)]
		if got, ok := impl.ApproxTree(s, depth); ok != (one != "") || got != one {
			t.Errorf("ApproxTree of %.100q up to %d returned %.100q, %v, not %.100q", s, depth, got, ok, one)
		}
	}
	checkNoTree(t, s, -1, 7)
}

func checkNoTree(t *testing.T, s string, depths ...int) {
	t.Helper()
	for _, depth := range depths {
		if got, ok := impl.ApproxTree(s, depth); ok || got != "" {
			t.Errorf("ApproxTree of %.60q up to %d returned %.60q, %v", s, depth, got, ok)
		}
	}
}

func TestApproxTree(t *testing.T) {
	checkTrees(t, "x", "x")
	checkTrees(t, "(lam x x)", "(lam z0 z0)")
	checkTrees(t, "(app (lam x x) y)", "y")
	checkTrees(t, "(lam y (app (lam x (lam z x)) y))", "(lam z0 (lam z1 z0))")
	checkTrees(t, "(app x y)", "(app x om)", "(app x y)")
	checkTrees(t, "(app (app (lam x x) x) (app (lam x x) y))", "(app x om)", "(app x y)")
	// No head normal term.
	checkTrees(t, endless, "om")
	checkTrees(t, growing, "om")
	checkTrees(t, "(lam x (app "+endless+" x))", "om")
	checkTrees(t, "(app (lam x (lam y (app x x))) (lam x (lam y (app x x))))", "om")
	checkTrees(t, "(app (lam x (app x x)) (lam x (app (app x x) y)))", "om")
	// One that is not used does not matter.
	checkTrees(t, "(app (lam x y) "+endless+")", "y")
	checkTrees(t, "(app (lam x (app y z)) "+growing+")", "(app y om)", "(app y z)")
}

// Where a small depth has om, a greater one has a head normal term.
func TestApproxTreeHoles(t *testing.T) {
	checkTrees(t, "(app x (app (lam y y) z0))", "(app x om)", "(app x z0)")
	checkTrees(t, "(app x (app y (app z w)))", "(app x om)", "(app x (app y om))", "(app x (app y (app z om)))", "(app x (app y (app z w)))")
	checkTrees(t, "(app a (app b (app c (app d (app e (app f g))))))", "(app a om)", "(app a (app b om))", "(app a (app b (app c om)))", "(app a (app b (app c (app d om))))",
		"(app a (app b (app c (app d (app e om)))))", "(app a (app b (app c (app d (app e (app f om))))))")
	// In several second terms.
	checkTrees(t, "(app (app x (app (lam v v) y)) (app (lam v (app v v)) z))", "(app (app x om) om)", "(app (app x y) (app z om))", "(app (app x y) (app z z))")
	checkTrees(t, "(app (app x (app y a)) (app z (app w b)))", "(app (app x om) om)", "(app (app x (app y om)) (app z om))", "(app (app x (app y a)) (app z (app w om)))", "(app (app x (app y a)) (app z (app w b)))")
	// Within lam.
	checkTrees(t, "(lam x (app x (app (lam v v) x)))", "(lam z0 (app z0 om))", "(lam z0 (app z0 z0))")
	checkTrees(t, "(lam x (app x (lam y (app y (app (lam v v) x)))))", "(lam z0 (app z0 om))", "(lam z0 (app z0 (lam z1 (app z1 om))))", "(lam z0 (app z0 (lam z1 (app z1 z0))))")
	checkTrees(t, "(lam x (lam y (app (app y (lam v (app (lam w (app w v)) x))) (app (lam v v) (lam v (app v x))))))", "(lam z0 (lam z1 (app (app z1 om) om)))",
		"(lam z0 (lam z1 (app (app z1 (lam z2 (app z0 om))) (lam z3 (app z3 om)))))", "(lam z0 (lam z1 (app (app z1 (lam z2 (app z0 z2))) (lam z3 (app z3 z0)))))")
	// What has no head normal term stays om.
	checkTrees(t, "(app x "+endless+")", "(app x om)")
	checkTrees(t, "(app x (lam y "+endless+"))", "(app x om)")
	checkTrees(t, "(app (app x "+growing+") (app y "+endless+"))", "(app (app x om) om)", "(app (app x om) (app y om))")
	checkTrees(t, "(lam v (app (app v "+endless+") (app (lam x (app x v)) y)))", "(lam z0 (app (app z0 om) om))", "(lam z0 (app (app z0 om) (app y om)))", "(lam z0 (app (app z0 om) (app y z0)))")
	// A head step that uses it up.
	checkTrees(t, "(app (lam x (app y (app (lam v (app z w)) x))) "+endless+")", "(app y om)", "(app y (app z om))", "(app y (app z w))")
}

// Terms without normal term whose trees grow with each depth.
func TestApproxTreeEndless(t *testing.T) {
	round := func(s string) (list []string) {
		tree := "om"
		for range 6 {
			tree = strings.ReplaceAll(s, "H", tree)
			list = append(list, tree)
		}
		return list
	}
	checkTrees(t, "(app (lam x (app f (app x x))) (lam x (app f (app x x))))", round("(app f H)")...)
	checkTrees(t, "(app (lam x (app (app f (app x x)) y)) (lam x (app (app f (app x x)) y)))",
		"(app (app f om) om)", "(app (app f (app (app f om) om)) y)", "(app (app f (app (app f (app (app f om) om)) y)) y)", "(app (app f (app (app f (app (app f (app (app f om) om)) y)) y)) y)",
		"(app (app f (app (app f (app (app f (app (app f (app (app f om) om)) y)) y)) y)) y)", "(app (app f (app (app f (app (app f (app (app f (app (app f (app (app f om) om)) y)) y)) y)) y)) y)")
	checkTrees(t, "(app (lam x (app (app f (app x x)) (app x x))) (lam x (app (app f (app x x)) (app x x))))", round("(app (app f H) H)")...)
	var lams []string
	for _, s := range round("(app y (lam z H))") {
		lams = append(lams, strings.Replace(s, "(lam z om)", "om", 1))
	}
	for i, s := range lams {
		for n := range i {
			s = strings.Replace(s, "(lam z ", "(lam z"+decimal(n)+" ", 1)
		}
		lams[i] = s
	}
	checkTrees(t, "(app (lam x (app y (lam z (app x x)))) (lam x (app y (lam z (app x x)))))", lams...)
	checkTrees(t, "(lam f (app (lam x (app f (app x x))) (lam x (app f (app x x)))))", "(lam z0 (app z0 om))", "(lam z0 (app z0 (app z0 om)))", "(lam z0 (app z0 (app z0 (app z0 om))))",
		"(lam z0 (app z0 (app z0 (app z0 (app z0 om)))))", "(lam z0 (app z0 (app z0 (app z0 (app z0 (app z0 om))))))", "(lam z0 (app z0 (app z0 (app z0 (app z0 (app z0 (app z0 om)))))))")
}

// The names that are free in the tree are left out: at a greater depth there may be more.
func TestApproxTreeNames(t *testing.T) {
	checkTrees(t, "(lam v (app v z0))", "(lam z0 (app z0 om))", "(lam z1 (app z1 z0))")
	checkTrees(t, "(lam v (app v (app z0 z1)))", "(lam z0 (app z0 om))", "(lam z1 (app z1 (app z0 om)))", "(lam z2 (app z2 (app z0 z1)))")
	checkTrees(t, "(lam v (app v (lam w (app w (app z0 z1)))))", "(lam z0 (app z0 om))", "(lam z0 (app z0 (lam z1 (app z1 om))))", "(lam z1 (app z1 (lam z2 (app z2 (app z0 om)))))", "(lam z2 (app z2 (lam z3 (app z3 (app z0 z1)))))")
	checkTrees(t, "(lam v (app v (app (lam w v) z0)))", "(lam z0 (app z0 om))", "(lam z0 (app z0 z0))")
	// A second term with lams of the same names as those around, behind a step of its own.
	checkTrees(t, "(lam z0 (app z0 (app (lam z1 (lam z0 (app z0 z1))) z0)))", "(lam z0 (app z0 om))", "(lam z0 (app z0 (lam z1 (app z1 om))))", "(lam z0 (app z0 (lam z1 (app z1 z0))))")
	checkTrees(t, "(lam x (lam y (app x (app (lam v (lam x (app (app x v) y))) x))))", "(lam z0 (lam z1 (app z0 om)))", "(lam z0 (lam z1 (app z0 (lam z2 (app (app z2 om) om)))))", "(lam z0 (lam z1 (app z0 (lam z2 (app (app z2 z0) z1)))))")
	checkTrees(t, "(lam x (lam y (app (app y (app (lam v (lam y (app v y))) y)) (app (lam v (lam x (app v x))) x))))", "(lam z0 (lam z1 (app (app z1 om) om)))",
		"(lam z0 (lam z1 (app (app z1 (lam z2 (app z1 om))) (lam z3 (app z0 om)))))", "(lam z0 (lam z1 (app (app z1 (lam z2 (app z1 z2))) (lam z3 (app z0 z3)))))")
}

// Just StepsMax steps to a head normal term, and one more, for the term itself and for second terms.
func TestApproxTreeStepsMax(t *testing.T) {
	for n := 185; n <= impl.StepsMax; n++ {
		checkTrees(t, waits(n), "y")
	}
	checkTrees(t, waits(impl.StepsMax+1), "om")
	checkTrees(t, waits(impl.StepsMax+2), "om")
	checkTrees(t, "(lam x "+waits(impl.StepsMax)+")", "(lam z0 y)")
	checkTrees(t, "(lam x "+waits(impl.StepsMax+1)+")", "om")
	checkTrees(t, "(app x "+waits(impl.StepsMax)+")", "(app x om)", "(app x y)")
	checkTrees(t, "(app x "+waits(impl.StepsMax+1)+")", "(app x om)")
	checkTrees(t, "(app "+waits(impl.StepsMax)+" a)", "(app y om)", "(app y a)")
	checkTrees(t, "(app "+waits(impl.StepsMax+1)+" a)", "om")
	checkTrees(t, "(app (app x (lam v (app v "+waits(impl.StepsMax)+"))) "+waits(impl.StepsMax+1)+")", "(app (app x om) om)", "(app (app x (lam z0 (app z0 om))) om)", "(app (app x (lam z0 (app z0 y))) om)")
	// The sum of the steps does not matter, beside each other and within each other.
	both := "(app (app x " + waits(impl.StepsMax) + ") " + waits(impl.StepsMax) + ")"
	checkTrees(t, both, "(app (app x om) om)", "(app (app x y) y)")
	behind := sames(4, "(app x (app y "+waits(198)+"))")
	checkTrees(t, behind, "(app x om)", "(app x (app y om))", "(app x (app y y))")
	deeper := sames(10, "(app x "+sames(10, "(app x "+waits(impl.StepsMax)+")")+")")
	checkTrees(t, deeper, "(app x om)", "(app x (app x om))", "(app x (app x y))")
	for _, s := range []string{both, behind, deeper} {
		if _, _, ok := impl.NormalOf("full", s); ok {
			t.Errorf("NormalOf of %q needs no more than StepsMax steps", s)
		}
	}
}

// A term that would have too many atoms on its way is no head normal term, but a second term alone may have as many as a term.
func TestApproxTreeTooLargeOnTheWay(t *testing.T) {
	twice := func(k int) string {
		return "(app (lam x (app (lam v y) (app x x))) " + leftApps(k) + ")"
	}
	// Behind a step it has 4k+7 atoms.
	checkTrees(t, twice(98), "y")
	checkTrees(t, twice(99), "om")
	checkTrees(t, "(app z "+twice(98)+")", "(app z om)", "(app z y)")
	checkTrees(t, "(app z "+twice(99)+")", "(app z om)")
	checkTrees(t, "(app (app (app a b) (app c d)) "+twice(98)+")", "(app (app (app a om) om) om)", "(app (app (app a b) (app c om)) y)", "(app (app (app a b) (app c d)) y)")
}

// The tree itself has at most TermMax atoms: that is 399, since each approximant has an odd number.
func TestApproxTreeTermMax(t *testing.T) {
	for _, c := range []struct {
		k, j int
		ok   bool
	}{{97, 1, true}, {97, 0, true}, {97, 2, false}, {98, 0, false}, {96, 3, true}, {96, 4, false}, {95, 5, true}, {95, 6, false}} {
		// From the depth 3 on, the tree has 4k+2j+9 atoms, though each head normal term in it is small enough.
		s := "(app (app y (app (lam x (app (app v x) x)) " + leftApps(c.k) + ")) " + leftApps(c.j) + ")"
		last := holesOf(c.j)
		if c.j == 0 {
			last = "x"
		}
		third := "(app (app y (app (app v " + holesOf(c.k) + ") " + holesOf(c.k) + ")) " + strings.ReplaceAll(last, "om", "y") + ")"
		fourth := strings.ReplaceAll(third, "om", "y")
		if !c.ok {
			third, fourth = "", ""
		}
		checkTrees(t, s, "(app (app y om) om)", "(app (app y (app (app v om) om)) "+last+")", third, fourth)
	}
}

// A tree that is too large is one for each greater depth, however fast it would grow.
func TestApproxTreeGrowing(t *testing.T) {
	for _, c := range []struct {
		n, depth int // of second terms, and the greatest depth of a tree
	}{{2, 6}, {3, 4}, {4, 3}, {5, 3}, {6, 2}} {
		w := "(lam x " + applied("y", slices.Repeat([]string{"(app x x)"}, c.n)...) + ")"
		tree := "om"
		var want []string
		for range c.depth {
			tree = applied("y", slices.Repeat([]string{tree}, c.n)...)
			want = append(want, tree)
		}
		if c.depth < 6 {
			want = append(want, "")
		}
		checkTrees(t, "(app "+w+" "+w+")", want...)
		checkTrees(t, "(app (lam v (app v v)) "+w+")", want...)
	}
}

func TestApproxTreeInvalid(t *testing.T) {
	for _, s := range noTerms() {
		checkNoTree(t, s, -1, 0, 1, 2, 6, 7)
	}
	for _, s := range []string{"x", "(app x y)", endless, two} {
		checkNoTree(t, s, -1, 7, 8, -2, 100, 1<<62, -1<<63)
	}
}

// Results are new memory.
func TestApproxResults(t *testing.T) {
	for _, c := range []string{"x12", "(app x12 (app y z))", "(lam z0 z0)", "(app x (lam z0 (app z0 z0)))"} {
		s := strings.Clone(c)
		var results []string
		for range 2 {
			direct, _ := impl.ApproxOf(s)
			tree, _ := impl.ApproxTree(s, 6)
			meet, _ := impl.ApproxMeet(s, s)
			term, _ := impl.ApproxTerm(s)
			results = append(results, direct, tree, meet, term)
		}
		for i, result := range results {
			if result != c {
				t.Errorf("result %d of %q is %q", i, c, result)
			}
			for _, other := range append(results[:i:i], s) {
				if shareMemory(result, other) {
					t.Errorf("result %d of %q shares memory", i, c)
				}
			}
		}
	}
	hole := strings.Clone("om")
	first, _ := impl.ApproxMeet(hole, hole)
	second, _ := impl.ApproxTree("x", 0)
	third, _ := impl.ApproxOf("(app (lam x x) y)")
	if first != "om" || second != "om" || third != "om" || shareMemory(first, hole) || shareMemory(first, second) || shareMemory(second, third) {
		t.Errorf("results that are om share memory: %q, %q, %q", first, second, third)
	}
}
