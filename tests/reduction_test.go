package tests

import (
	"strings"
	"testing"

	"loop.example/intersectiontypes/impl"
)

const (
	same  = "(lam x x)"
	two   = "(lam f (lam x (app f (app f x))))"
	three = "(lam f (lam x (app f (app f (app f x)))))"
	// endless comes to itself, and growing to greater and greater terms.
	endless = "(app (lam x (app x x)) (lam x (app x x)))"
	growing = "(app (lam x (app (app x x) x)) (lam x (app (app x x) x)))"
)

// noKinds are texts that are no kinds.
func noKinds() []string {
	return []string{"", "Head", "FULL", "hea", "heads", "ful", "fulls", "head ", " full", "full\n", "head full", "headfull", "h", "f", "x", "lam", "0", "\x00", "\xff", strings.Repeat("full", 5000)}
}

func TestLimits(t *testing.T) {
	if impl.TextMax != 8000 || impl.TermMax != 400 || impl.StepsMax != 200 || impl.TypeMax != 200 || impl.NodesMax != 600 {
		t.Errorf("the limits are %d, %d, %d, %d and %d", impl.TextMax, impl.TermMax, impl.StepsMax, impl.TypeMax, impl.NodesMax)
	}
}

func TestStepOf(t *testing.T) {
	for _, c := range []struct{ s, head, full string }{
		// A redex behind lams.
		{"(app (lam x x) y)", "y", "y"},
		{"(lam a (app (lam x x) a))", "(lam z0 z0)", "(lam z0 z0)"},
		{"(lam a (lam b (lam c (app (lam x (app x b)) a))))", "(lam z0 (lam z1 (lam z2 (app z0 z1))))", "(lam z0 (lam z1 (lam z2 (app z0 z1))))"},
		{"(lam a (lam a (app (lam a a) a)))", "(lam z0 (lam z1 z1))", "(lam z0 (lam z1 z1))"},
		// A redex that is the first term of app on the left.
		{"(app (app (lam x x) y) z)", "(app y z)", "(app y z)"},
		{"(lam a (app (app (app (lam x x) a) b) c))", "(lam z0 (app (app z0 b) c))", "(lam z0 (app (app z0 b) c))"},
		{"(app (app (lam x (lam y x)) a) b)", "(app (lam z0 a) b)", "(app (lam z0 a) b)"},
		{"(lam b (app (app (lam x (lam y x)) a) (app (lam z z) b)))", "(lam z0 (app (lam z1 a) (app (lam z2 z2) z0)))", "(lam z0 (app (lam z1 a) (app (lam z2 z2) z0)))"},
		// A redex in a second term is one for a full step alone.
		{"(app x (app (lam y y) z))", "", "(app x z)"},
		{"(lam x (app x (app (lam y y) x)))", "", "(lam z0 (app z0 z0))"},
		{"(app (app x (app (lam y y) z)) (app (lam y y) w))", "", "(app (app x z) (app (lam z0 z0) w))"},
		{"(app (app x y) (lam z (app (lam y y) z)))", "", "(app (app x y) (lam z0 z0))"},
		{"(app x (app (app y (app (lam z z) a)) (app (lam z z) b)))", "", "(app x (app (app y a) (app (lam z0 z0) b)))"},
		// Several redexes: the one whose app begins first.
		{"(app (lam x x) (app (lam y y) z))", "(app (lam z0 z0) z)", "(app (lam z0 z0) z)"},
		{"(app (lam x (app (lam y y) x)) z)", "(app (lam z0 z0) z)", "(app (lam z0 z0) z)"},
		{"(app (lam x (app (lam y y) x)) (app (lam w w) z))", "(app (lam z0 z0) (app (lam z1 z1) z))", "(app (lam z0 z0) (app (lam z1 z1) z))"},
		{"(lam a (app (lam x (app (lam y y) x)) (app (lam w w) a)))", "(lam z0 (app (lam z1 z1) (app (lam z2 z2) z0)))", "(lam z0 (app (lam z1 z1) (app (lam z2 z2) z0)))"},
		{"(app (app (lam x x) (app (lam y y) a)) (app (lam y y) b))", "(app (app (lam z0 z0) a) (app (lam z1 z1) b))", "(app (app (lam z0 z0) a) (app (lam z1 z1) b))"},
		{"(app x (app (lam a (app (lam b b) a)) (app (lam c c) y)))", "", "(app x (app (lam z0 z0) (app (lam z1 z1) y)))"},
		{"(app x (lam a (app (lam b (app (lam c c) b)) a)))", "", "(app x (lam z0 (app (lam z1 z1) z0)))"},
		// Names that are not used, used several times, or would be captured.
		{"(app (lam x y) z)", "y", "y"},
		{"(app (lam x y) x)", "y", "y"},
		{"(app (lam x (lam y z0)) " + endless + ")", "(lam z1 z0)", "(lam z1 z0)"},
		{"(app (lam x (app (app x y) x)) (app a b))", "(app (app (app a b) y) (app a b))", "(app (app (app a b) y) (app a b))"},
		{"(app (lam x (app x x)) (lam y y))", "(app (lam z0 z0) (lam z1 z1))", "(app (lam z0 z0) (lam z1 z1))"},
		{"(app (lam x (lam x x)) y)", "(lam z0 z0)", "(lam z0 z0)"},
		{"(app (lam x (app x (lam x x))) y)", "(app y (lam z0 z0))", "(app y (lam z0 z0))"},
		{"(app (lam x (lam y x)) y)", "(lam z0 y)", "(lam z0 y)"},
		{"(app (lam x (lam y (app x y))) y)", "(lam z0 (app y z0))", "(lam z0 (app y z0))"},
		{"(app (lam x (lam z0 (app x z0))) z0)", "(lam z1 (app z0 z1))", "(lam z1 (app z0 z1))"},
		{"(lam y (app (lam x (lam y (app x y))) y))", "(lam z0 (lam z1 (app z0 z1)))", "(lam z0 (lam z1 (app z0 z1)))"},
		{"(lam y (lam z (app (lam x (lam y (lam z (app (app x y) z)))) (app y z))))", "(lam z0 (lam z1 (lam z2 (lam z3 (app (app (app z0 z1) z2) z3)))))", "(lam z0 (lam z1 (lam z2 (lam z3 (app (app (app z0 z1) z2) z3)))))"},
		{"(lam a (app (lam x (lam y (app a x))) (lam c (app c a))))", "(lam z0 (lam z1 (app z0 (lam z2 (app z2 z0)))))", "(lam z0 (lam z1 (app z0 (lam z2 (app z2 z0)))))"},
		// Names that were free and are no longer there.
		{"(app (lam x y) z0)", "y", "y"},
		{"(app (lam x (lam y y)) z0)", "(lam z0 z0)", "(lam z0 z0)"},
		// Terms without a step.
		{"x", "", ""},
		{"(lam x x)", "", ""},
		{"(app x y)", "", ""},
		{"(app x (lam x x))", "", ""},
		{"(lam x (app (app x y) (lam y y)))", "", ""},
		{"(app (app x (lam x x)) y)", "", ""},
	} {
		checkStep(t, "head", c.s, c.head)
		checkStep(t, "full", c.s, c.full)
	}
}

// checkStep expects no step if there is no term behind it.
func checkStep(t *testing.T, kind string, s string, want string) {
	t.Helper()
	if got, ok := impl.StepOf(kind, s); got != want || ok != (want != "") {
		t.Errorf("StepOf %s of %q returned %q, %v", kind, s, got, ok)
	}
	if impl.NormalIs(kind, s) != (want == "") {
		t.Errorf("NormalIs %s of %q is %v", kind, s, want != "")
	}
	if want == "" {
		want = s
	}
	if got, n, ok := impl.StepMany(kind, s, 1); got != want || !ok || (n == 1) == impl.NormalIs(kind, s) {
		t.Errorf("StepMany %s of %q returned %q, %d, %v", kind, s, got, n, ok)
	}
}

// What results has at most TermMax atoms; there is no step to what has more, but a redex there is.
func TestStepMax(t *testing.T) {
	const most = (impl.TermMax - 1) / 2
	for _, c := range []struct {
		s  string
		ok bool
	}{
		{"(app (lam x (app x x)) " + leftApps(99) + ")", true},
		{"(app (lam x (app x x)) " + leftApps(100) + ")", false},
		{"(app (lam x (app y (app x x))) " + leftApps(98) + ")", true},
		{"(app (lam x (app y (app x x))) " + leftApps(99) + ")", false},
		{"(lam y (app (lam x (app x x)) " + leftApps(98) + "))", true},
		{"(lam y (app (lam x (app x x)) " + leftApps(99) + "))", false},
		{"(app (app (lam x (app x x)) " + leftApps(98) + ") y)", true},
		{"(app (app (lam x (app x x)) " + leftApps(99) + ") y)", false},
		{"(app (lam x x) " + leftApps(most-2) + ")", true},
		{"(app (lam x " + rightApps(most/2) + ") " + leftApps(most/2-2) + ")", false},
	} {
		for _, kind := range kinds() {
			checkStepMax(t, kind, c.s, c.ok)
		}
	}
	within := "(app y (app (lam x (app x x)) "
	if got, ok := impl.StepOf("full", within+leftApps(98)+"))"); !ok || impl.TermSize(got) != 198 {
		t.Errorf("StepOf returned a term of the size %d, %v", impl.TermSize(got), ok)
	}
	if got, ok := impl.StepOf("full", within+leftApps(99)+"))"); ok || got != "" {
		t.Errorf("StepOf returned %q, %v", got, ok)
	}
}

func checkStepMax(t *testing.T, kind string, s string, ok bool) {
	t.Helper()
	got, okStep := impl.StepOf(kind, s)
	if okStep != ok || impl.TermValid(got) != ok || (got == "") == ok {
		t.Errorf("StepOf %s of %.60q (size %d) returned %.60q, %v", kind, s, impl.TermSize(s), got, okStep)
	}
	if impl.NormalIs(kind, s) || impl.Measure(kind, s) != -1 {
		t.Errorf("%.60q is normal for %s", s, kind)
	}
	if ok {
		return
	}
	if many, n, okMany := impl.StepMany(kind, s, 3); !okMany || n != 0 || many != s {
		t.Errorf("StepMany %s of %.60q returned %.60q, %d, %v", kind, s, many, n, okMany)
	}
	if normal, n, okNormal := impl.NormalOf(kind, s); okNormal || n != 0 || normal != "" {
		t.Errorf("NormalOf %s of %.60q returned %.60q, %d, %v", kind, s, normal, n, okNormal)
	}
}

// A term that would come to a small normal one, but only by one that is no term, comes to none.
func TestNormalTooLargeOnTheWay(t *testing.T) {
	for _, kind := range kinds() {
		s := "(app (lam x (app (app (lam a (lam b b)) (app x x)) y)) " + leftApps(110) + ")"
		if got, n, ok := impl.NormalOf(kind, s); ok || n != 0 || got != "" {
			t.Errorf("NormalOf %s returned %q, %d, %v", kind, got, n, ok)
		}
		s = strings.Replace(s, leftApps(110), leftApps(90), 1)
		if got, n, ok := impl.NormalOf(kind, s); !ok || n != 3 || got != "y" {
			t.Errorf("NormalOf %s returned %q, %d, %v", kind, got, n, ok)
		}
	}
}

func TestStepMany(t *testing.T) {
	for _, c := range []struct {
		kind, s string
		n       int
		want    string
		count   int
	}{
		// Behind no step the term is as it stands, not as its canonical one.
		{"head", "(lam x (app x (lam y y)))", 0, "(lam x (app x (lam y y)))", 0},
		{"full", "(lam x (app (lam y y) x))", 0, "(lam x (app (lam y y) x))", 0},
		{"head", "(lam x (app x (lam y y)))", 5, "(lam x (app x (lam y y)))", 0},
		{"full", "(lam x (app x (lam y y)))", impl.StepsMax, "(lam x (app x (lam y y)))", 0},
		{"head", "(lam x (app x (app (lam y y) x)))", 7, "(lam x (app x (app (lam y y) x)))", 0},
		{"full", "(lam x (app x (app (lam y y) x)))", 7, "(lam z0 (app z0 z0))", 1},
		{"full", "(app (lam x x) (app (lam x x) (app (lam x x) a)))", 0, "(app (lam x x) (app (lam x x) (app (lam x x) a)))", 0},
		{"full", "(app (lam x x) (app (lam x x) (app (lam x x) a)))", 1, "(app (lam z0 z0) (app (lam z1 z1) a))", 1},
		{"head", "(app (lam x x) (app (lam x x) (app (lam x x) a)))", 2, "(app (lam z0 z0) a)", 2},
		{"head", "(app (lam x x) (app (lam x x) (app (lam x x) a)))", 3, "a", 3},
		{"full", "(app (lam x x) (app (lam x x) (app (lam x x) a)))", 4, "a", 3},
		{"head", "(app (app " + two + " y) z)", 9, "(app y (app y z))", 2},
		{"head", "(app (app " + two + " y) (app (lam x x) z))", 9, "(app y (app y (app (lam z0 z0) z)))", 2},
		{"full", "(app (app " + two + " y) (app (lam x x) z))", 9, "(app y (app y z))", 3},
		{"head", endless, 0, endless, 0},
		{"head", endless, 1, "(app (lam z0 (app z0 z0)) (lam z1 (app z1 z1)))", 1},
		{"full", endless, impl.StepsMax, "(app (lam z0 (app z0 z0)) (lam z1 (app z1 z1)))", impl.StepsMax},
		{"head", "(app x " + endless + ")", impl.StepsMax, "(app x " + endless + ")", 0},
	} {
		if got, count, ok := impl.StepMany(c.kind, c.s, c.n); got != c.want || count != c.count || !ok {
			t.Errorf("StepMany %s of %q and %d returned %q, %d, %v", c.kind, c.s, c.n, got, count, ok)
		}
	}
}

// The term is 4 greater behind each step, until it would be no term.
func TestStepManyGrowing(t *testing.T) {
	const steps = (impl.TermMax/2 - 7) / 4
	for _, kind := range kinds() {
		for _, n := range []int{steps, steps + 1, impl.StepsMax} {
			got, count, ok := impl.StepMany(kind, growing, n)
			if !ok || count != steps || impl.TermSize(got) != 7+4*steps || impl.NormalIs(kind, got) {
				t.Errorf("StepMany %s of a growing term and %d returned %q, %d, %v", kind, n, got, count, ok)
			}
			if next, ok := impl.StepOf(kind, got); ok || next != "" {
				t.Errorf("StepOf %s of %q returned %q", kind, got, next)
			}
		}
	}
}

func TestStepManyRange(t *testing.T) {
	for _, kind := range kinds() {
		for _, s := range []string{"x", "(app (lam x x) y)", endless, growing} {
			for _, n := range []int{0, 1, impl.StepsMax - 1, impl.StepsMax} {
				if got, _, ok := impl.StepMany(kind, s, n); !ok || got == "" {
					t.Errorf("StepMany %s of %q and %d fails", kind, s, n)
				}
			}
			for _, n := range []int{-1, -2, impl.StepsMax + 1, impl.StepsMax + 2, 1 << 62, -1 << 63} {
				if got, count, ok := impl.StepMany(kind, s, n); ok || count != 0 || got != "" {
					t.Errorf("StepMany %s of %q and %d returned %q, %d, %v", kind, s, n, got, count, ok)
				}
			}
		}
	}
}

func TestNormal(t *testing.T) {
	for _, c := range []struct {
		s          string
		head, full string
		nHead      int
		nFull      int
	}{
		{"x", "x", "x", 0, 0},
		{"(lam x (app x y))", "(lam z0 (app z0 y))", "(lam z0 (app z0 y))", 0, 0},
		{"(app x (app (lam y y) z))", "(app x (app (lam z0 z0) z))", "(app x z)", 0, 1},
		{"(lam x (app (lam y (app y (app (lam w w) y))) x))", "(lam z0 (app z0 (app (lam z1 z1) z0)))", "(lam z0 (app z0 z0))", 1, 2},
		{"(app x " + endless + ")", "(app x (app (lam z0 (app z0 z0)) (lam z1 (app z1 z1))))", "", 0, 0},
		{"(app x " + growing + ")", "(app x (app (lam z0 (app (app z0 z0) z0)) (lam z1 (app (app z1 z1) z1))))", "", 0, 0},
		{"(app (lam x y) " + endless + ")", "y", "y", 1, 1},
		{"(app (lam x (app y x)) (app (lam x x) z))", "(app y (app (lam z0 z0) z))", "(app y z)", 1, 2},
		{endless, "", "", 0, 0},
		{growing, "", "", 0, 0},
		{"(lam y " + endless + ")", "", "", 0, 0},
		{"(app (app (lam x (lam y x)) " + endless + ") z)", "", "", 0, 0},
		{"(app (app (lam x (lam y y)) " + endless + ") z)", "z", "z", 2, 2},
		{"(app " + two + " " + two + ")", "(lam z0 (lam z1 (app z0 (app z0 (app (app (lam z2 (lam z3 (app z2 (app z2 z3)))) z0) z1)))))", "(lam z0 (lam z1 (app z0 (app z0 (app z0 (app z0 z1))))))", 4, 6},
		{"(app (app (app " + two + " " + three + ") " + same + ") y)", "y", "y", 19, 19},
	} {
		checkNormal(t, "head", c.s, c.head, c.nHead)
		checkNormal(t, "full", c.s, c.full, c.nFull)
	}
}

// checkNormal expects NormalOf to fail if there is no normal term.
func checkNormal(t *testing.T, kind string, s string, want string, n int) {
	t.Helper()
	got, count, ok := impl.NormalOf(kind, s)
	if got != want || count != n || ok != (want != "") {
		t.Errorf("NormalOf %s of %.80q returned %q, %d, %v", kind, s, got, count, ok)
	}
	if ok && !impl.NormalIs(kind, got) {
		t.Errorf("NormalOf %s of %.80q is not normal", kind, s)
	}
}

// waits comes to y in n steps of both kinds; n is at least 185, the number for two two three.
func waits(n int) string {
	more := n - 185
	power := "(app (app " + two + " " + two + ") " + three + ")"
	return strings.Repeat("(app "+same+" ", more) + "(app (app " + power + " " + same + ") y)" + strings.Repeat(")", more)
}

func TestNormalWithinStepsMax(t *testing.T) {
	for _, kind := range kinds() {
		for n := 185; n <= impl.StepsMax; n++ {
			checkNormal(t, kind, waits(n), "y", n)
		}
		checkNormal(t, kind, waits(impl.StepsMax+1), "", 0)
		checkNormal(t, kind, waits(impl.StepsMax+2), "", 0)
	}
	for _, around := range [][2]string{{"(app x ", ")"}, {"(lam z0 (app z0 ", "))"}} {
		s := around[0] + waits(impl.StepsMax) + around[1]
		checkNormal(t, "full", s, around[0]+"y"+around[1], impl.StepsMax)
		checkNormal(t, "full", around[0]+waits(impl.StepsMax+1)+around[1], "", 0)
		if _, n, ok := impl.NormalOf("head", s); !ok || n != 0 {
			t.Errorf("NormalOf head of %q needs %d steps, %v", s, n, ok)
		}
	}
	last, n, ok := impl.StepMany("full", waits(impl.StepsMax+1), impl.StepsMax)
	if !ok || n != impl.StepsMax || last != "(app (lam z0 z0) y)" {
		t.Errorf("StepMany returned %q, %d, %v", last, n, ok)
	}
}

func TestMeasure(t *testing.T) {
	for _, c := range []struct {
		s          string
		head, full int
		neutral    bool
		redexes    int
	}{
		{"x", 0, 0, true, 0},
		{"(app x y)", 1, 1, true, 0},
		{"(lam x x)", 1, 1, false, 0},
		{"(lam x (lam y (app (app x (app y y)) (lam z z))))", 4, 6, false, 0},
		{"(app (app x (lam y y)) (app x y))", 2, 4, true, 0},
		{"(app x (lam y (app y y)))", 1, 3, true, 0},
		{"(app (app (app x y) y) y)", 3, 3, true, 0},
		{"(app x (app y (app z w)))", 1, 3, true, 0},
		{"(app x (app (lam y y) z))", 1, -1, false, 1},
		{"(lam x (app x (lam y (app (lam z z) y))))", 2, -1, false, 1},
		{"(app (lam x x) y)", -1, -1, false, 1},
		{"(lam x (app (lam y y) x))", -1, -1, false, 1},
		{"(app (app (lam x x) y) z)", -1, -1, false, 1},
		{"(app (lam x (app (lam y y) x)) (app (lam z z) w))", -1, -1, false, 3},
		{"(app (app x (app (lam y y) z)) (lam w (app (lam y y) w)))", 2, -1, false, 2},
		{"(app (app (lam x x) (lam x x)) (lam x x))", -1, -1, false, 1},
		{"(app (lam x x) (lam x x))", -1, -1, false, 1},
		{"(lam x (lam x x))", 2, 2, false, 0},
		{endless, -1, -1, false, 1},
	} {
		checkMeasure(t, c.s, c.head, c.full)
		if impl.NeutralIs(c.s) != c.neutral {
			t.Errorf("NeutralIs of %q is %v", c.s, !c.neutral)
		}
		if n := impl.RedexCount(c.s); n != c.redexes {
			t.Errorf("RedexCount of %q returned %d", c.s, n)
		}
	}
}

func checkMeasure(t *testing.T, s string, head int, full int) {
	t.Helper()
	if n := impl.Measure("head", s); n != head || impl.NormalIs("head", s) != (head != -1) {
		t.Errorf("Measure head of %q returned %d", s, n)
	}
	if n := impl.Measure("full", s); n != full || impl.NormalIs("full", s) != (full != -1) {
		t.Errorf("Measure full of %q returned %d", s, n)
	}
}

func TestTermEqual(t *testing.T) {
	for _, c := range []struct {
		a, b string
		want bool
	}{
		{"x", "x", true},
		{"x", "y", false},
		{"(lam x x)", "(lam y y)", true},
		{"(app (lam x x) y)", "y", true},
		{"(app (lam x x) y)", "x", false},
		{"(app (lam x (app x x)) (lam y y))", "(app (lam x x) (lam z z))", true},
		{"(app " + two + " " + two + ")", "(lam f (lam x (app (app " + two + " f) (app (app " + two + " f) x))))", true},
		{"(app " + two + " " + three + ")", "(app " + three + " " + two + ")", false},
		{"(app x (app (lam y y) z))", "(app x z)", true},
		{"(lam x (app f x))", "f", false},
		{"(app (lam x y) " + endless + ")", "y", true},
		{endless, endless, false},
		{growing, growing, false},
		{endless, "x", false},
		{"x", growing, false},
		{"(app x " + endless + ")", "(app x " + endless + ")", false},
		{waits(impl.StepsMax), waits(190), true},
		{waits(impl.StepsMax + 1), "y", false},
	} {
		if impl.TermEqual(c.a, c.b) != c.want {
			t.Errorf("TermEqual of %.80q and %.80q is %v", c.a, c.b, !c.want)
		}
	}
}

func TestReductionInvalid(t *testing.T) {
	for _, s := range noTerms() {
		for _, kind := range kinds() {
			checkNoStep(t, kind, s)
		}
		if impl.NeutralIs(s) || impl.TermEqual(s, s) || impl.TermEqual(s, "x") || impl.TermEqual("x", s) {
			t.Errorf("NeutralIs or TermEqual of %.40q is true", s)
		}
		if n := impl.RedexCount(s); n != -1 {
			t.Errorf("RedexCount of %.40q returned %d", s, n)
		}
	}
	for _, kind := range noKinds() {
		for _, s := range []string{"x", "(app (lam x x) y)", "(lam x x)", "lam", ""} {
			checkNoStep(t, kind, s)
		}
	}
}

func checkNoStep(t *testing.T, kind string, s string) {
	t.Helper()
	if got, ok := impl.StepOf(kind, s); ok || got != "" {
		t.Errorf("StepOf %.40q of %.40q returned %q, %v", kind, s, got, ok)
	}
	for _, n := range []int{-1, 0, 1, impl.StepsMax, impl.StepsMax + 1} {
		if got, count, ok := impl.StepMany(kind, s, n); ok || count != 0 || got != "" {
			t.Errorf("StepMany %.40q of %.40q and %d returned %q, %d, %v", kind, s, n, got, count, ok)
		}
	}
	if got, n, ok := impl.NormalOf(kind, s); ok || n != 0 || got != "" {
		t.Errorf("NormalOf %.40q of %.40q returned %q, %d, %v", kind, s, got, n, ok)
	}
	if impl.NormalIs(kind, s) {
		t.Errorf("NormalIs %.40q of %.40q is true", kind, s)
	}
	if n := impl.Measure(kind, s); n != -1 {
		t.Errorf("Measure %.40q of %.40q returned %d", kind, s, n)
	}
}
