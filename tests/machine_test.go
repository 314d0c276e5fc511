package tests

import (
	"slices"
	"strings"
	"testing"

	"loop.example/intersectiontypes/impl"
)

// machineCase is a term with its whole trace, the name at the end, how many closures are on the stack there,
// and the term that is made of them.
type machineCase struct {
	s, trace, name string
	args           int
	normal         string
}

func checkMachines(t *testing.T, list []machineCase) {
	t.Helper()
	for _, c := range list {
		checkMachine(t, c)
		if !impl.MachineAgrees(c.s) {
			t.Errorf("MachineAgrees of %.100q does not hold", c.s)
		}
		if normal, steps, ok := impl.NormalOf("head", c.s); !ok || normal != c.normal || steps != strings.Count(c.trace, "t") {
			t.Errorf("NormalOf head of %.100q returned %.100q, %d, %v", c.s, normal, steps, ok)
		}
	}
}

// runOf counts the moves of a whole trace.
func (c machineCase) runOf() impl.Run {
	opens := strings.Count(c.trace, "o")
	return impl.Run{Pushes: strings.Count(c.trace, "p"), Takes: strings.Count(c.trace, "t"), Opens: opens, Lookups: strings.Count(c.trace, "l"), Name: c.name, Args: c.args, Lams: opens}
}

// checkMachine asks all that is told of a run, but for MachineAgrees. An empty normal expects MachineNormal to fail.
func checkMachine(t *testing.T, c machineCase) {
	t.Helper()
	moves := len(c.trace) - 1
	if r, ok := impl.MachineRun(c.s); !ok || r != c.runOf() {
		t.Errorf("MachineRun of %.100q returned %+v, %v, not %+v", c.s, r, ok, c.runOf())
	}
	if n := impl.MachineMoves(c.s); n != moves {
		t.Errorf("MachineMoves of %.100q returned %d, not %d", c.s, n, moves)
	}
	if n := impl.MachineVisits(c.s); n != moves+1 {
		t.Errorf("MachineVisits of %.100q returned %d, not %d", c.s, n, moves+1)
	}
	if normal, ok := impl.MachineNormal(c.s); normal != c.normal || ok != (c.normal != "") {
		t.Errorf("MachineNormal of %.100q returned %.200q, %v, not %.200q", c.s, normal, ok, c.normal)
	}
	checkTrace(t, c)
}

// traceEnds are the n for which a trace of so many moves is asked: none, fewer than there are, as many, the dot, and more.
func traceEnds(moves int) []int {
	return []int{0, 1, 2, moves / 2, moves - 1, moves, moves + 1, moves + 2, 299, 300}
}

func checkTrace(t *testing.T, c machineCase) {
	t.Helper()
	for _, n := range traceEnds(len(c.trace) - 1) {
		if n < 0 || n > 300 {
			continue
		}
		want := c.trace[:min(n, len(c.trace))]
		if got, ok := impl.MachineTrace(c.s, n); !ok || got != want {
			t.Errorf("MachineTrace of %.100q and %d returned %q, %v, not %q", c.s, n, got, ok, want)
		}
	}
	checkNoTrace(t, c.s, []int{-1, -2, 301, 302, 3000, 1 << 62, -1 << 63})
}

func checkNoTrace(t *testing.T, s string, list []int) {
	t.Helper()
	for _, n := range list {
		if got, ok := impl.MachineTrace(s, n); ok || got != "" {
			t.Errorf("MachineTrace of %.60q and %d returned %.60q, %v", s, n, got, ok)
		}
	}
}

// checkNoMachine expects all functions to fail.
func checkNoMachine(t *testing.T, s string) {
	t.Helper()
	if r, ok := impl.MachineRun(s); ok || r != (impl.Run{}) {
		t.Errorf("MachineRun of %.60q returned %+v, %v", s, r, ok)
	}
	if n, m := impl.MachineMoves(s), impl.MachineVisits(s); n != -1 || m != -1 {
		t.Errorf("MachineMoves and MachineVisits of %.60q returned %d and %d", s, n, m)
	}
	if normal, ok := impl.MachineNormal(s); ok || normal != "" {
		t.Errorf("MachineNormal of %.60q returned %.60q, %v", s, normal, ok)
	}
	if impl.MachineAgrees(s) {
		t.Errorf("MachineAgrees of %.60q holds", s)
	}
	checkNoTrace(t, s, []int{-1, 0, 1, 2, 300, 301})
}

func TestMovesMax(t *testing.T) {
	if impl.MovesMax != 3000 {
		t.Errorf("MovesMax is %d", impl.MovesMax)
	}
}

// Each move, alone and with others.
func TestMachineMoves(t *testing.T) {
	checkMachines(t, []machineCase{
		// The end at once.
		{"x", ".", "x", 0, "x"},
		{"z123", ".", "z123", 0, "z123"},
		// Opens: the name at the end has nothing, or is not in the environment.
		{"(lam x x)", "o.", "x", 0, "(lam z0 z0)"},
		{"(lam x y)", "o.", "y", 0, "(lam z0 y)"},
		{"(lam x (lam y x))", "oo.", "x", 0, "(lam z0 (lam z1 z0))"},
		{"(lam x (lam y y))", "oo.", "y", 0, "(lam z0 (lam z1 z1))"},
		// A take, with a lookup and without one.
		{"(app (lam x x) y)", "ptl.", "y", 0, "y"},
		{"(app (lam x y) z)", "pt.", "y", 0, "y"},
		{"(app (lam x y) x)", "pt.", "y", 0, "y"},
		{"(lam z (app (lam x x) z))", "optl.", "z", 0, "(lam z0 z0)"},
		{"(app (lam x (lam y x)) z)", "ptol.", "z", 0, "(lam z0 z)"},
		{"(app (app (lam x (lam y x)) a) b)", "ppttl.", "a", 0, "a"},
		{"(app (app (lam x (lam y y)) a) b)", "ppttl.", "b", 0, "b"},
		// A lookup of what is a name with a closure, an app, or a lam again.
		{"(app (lam x (app (lam y y) x)) z)", "ptptll.", "z", 0, "z"},
		{"(app (lam x x) (app (lam y y) z))", "ptlptl.", "z", 0, "z"},
		{"(app (lam x x) (lam y y))", "ptlo.", "y", 0, "(lam z0 z0)"},
		{"(app (lam x (app x x)) (lam y y))", "ptpltllo.", "y", 0, "(lam z0 z0)"},
		{"(app (lam x (app x y)) (lam z z))", "ptpltl.", "y", 0, "y"},
		// A lookup leaves the stack as it is.
		{"(app (app (lam x x) y) z)", "pptl.", "y", 1, "(app y z)"},
		{"(app (lam x (app (app x a) b)) y)", "ptppl.", "y", 2, "(app (app y a) b)"},
		{"(app (lam x (app (app x a) b)) (lam v v))", "ptppltl.", "a", 1, "(app a b)"},
		// An open comes only once the stack is empty.
		{"(app (lam x (lam y (lam z x))) w)", "ptool.", "w", 0, "(lam z0 (lam z1 w))"},
		{"(app (app (lam x (lam y (lam z y))) w) v)", "ppttol.", "v", 0, "(lam z0 v)"},
		{"(app " + two + " " + same + ")", "ptopltlpltl.", "x", 0, "(lam z0 z0)"},
	})
}

// Arguments that are left at the end: the first one is the last one that was put onto the stack.
func TestMachineArgs(t *testing.T) {
	checkMachines(t, []machineCase{
		{"(app x y)", "p.", "x", 1, "(app x y)"},
		{"(app x x)", "p.", "x", 1, "(app x x)"},
		{"(app (app x y) z)", "pp.", "x", 2, "(app (app x y) z)"},
		{"(app (app (app x a) b) c)", "ppp.", "x", 3, "(app (app (app x a) b) c)"},
		{"(lam x (app x y))", "op.", "x", 1, "(lam z0 (app z0 y))"},
		{"(lam x (app y x))", "op.", "y", 1, "(lam z0 (app y z0))"},
		{"(lam x (lam y (app (app (app x y) x) z)))", "ooppp.", "x", 3, "(lam z0 (lam z1 (app (app (app z0 z1) z0) z)))"},
		{"(lam x (lam y (app (app y x) (app x y))))", "oopp.", "y", 2, "(lam z0 (lam z1 (app (app z1 z0) (app z0 z1))))"},
		// Some were on the stack ahead of a take, and some come behind it.
		{"(app (app (lam x (app (app y a) x)) b) c)", "pptpp.", "y", 3, "(app (app (app y a) b) c)"},
		{"(app (app (app (lam x x) a) b) c)", "ppptl.", "a", 2, "(app (app a b) c)"},
		{"(lam w (app (app (lam x (app x w)) w) a))", "opptpl.", "w", 2, "(lam z0 (app (app z0 z0) a))"},
		{"(app (app (lam x (app x a)) (lam y (app y b))) c)", "pptpltpl.", "a", 2, "(app (app a b) c)"},
	})
}

// What the environments of the closures on the stack have for their names.
func TestMachineClosures(t *testing.T) {
	checkMachines(t, []machineCase{
		// A closure, nothing, or the name not at all.
		{"(app (lam x (app y x)) z)", "ptp.", "y", 1, "(app y z)"},
		{"(app (lam x (app y (app x x))) z)", "ptp.", "y", 1, "(app y (app z z))"},
		{"(lam x (app y (app x x)))", "op.", "y", 1, "(lam z0 (app y (app z0 z0)))"},
		{"(app (lam x (app y w)) z)", "ptp.", "y", 1, "(app y w)"},
		{"(lam v (app (lam x (app y (app (app x v) w))) z))", "optp.", "y", 1, "(lam z0 (app y (app (app z z0) w)))"},
		{"(app (app (lam x (lam y (lam v (app (app v x) y)))) a) b)", "ppttopp.", "v", 2, "(lam z0 (app (app z0 a) b))"},
		// The closure's own environment has further closures, and these have more.
		{"(app (lam a (app (lam b (app y b)) (app a w))) z)", "ptptp.", "y", 1, "(app y (app z w))"},
		{"(app (lam a (app (lam b (app y b)) a)) z)", "ptptp.", "y", 1, "(app y z)"},
		{"(app (lam a (app (lam b (app (lam c (app y c)) (app b a))) (app a a))) z)", "ptptptp.", "y", 1, "(app y (app (app z z) z))"},
		{"(lam v (app (lam a (app (lam b (app (app y b) a)) (app a v))) (app v z)))", "optptpp.", "y", 2, "(lam z0 (app (app y (app (app z0 z) z0)) (app z0 z)))"},
		{"(app (lam a (lam v (app (lam b (app (app v b) a)) (app a v)))) z)", "ptoptpp.", "v", 2, "(lam z0 (app (app z0 (app z z0)) z))"},
		// One closure with two environments: what x is was other when the first one was put onto the stack.
		{"(app (app (lam x (lam y (app (lam x (app (app w x) y)) z))) a) (app b b))", "ppttptpp.", "w", 2, "(app (app w z) (app b b))"},
		{"(app (lam x (app (lam y (app (lam x (app (app w x) y)) b)) (app x x))) a)", "ptptptpp.", "w", 2, "(app (app w b) (app a a))"},
	})
}

// Second terms are left as they are, and so are those that are not used.
func TestMachineNotEvaluated(t *testing.T) {
	const loop = "(app (lam z0 (app z0 z0)) (lam z1 (app z1 z1)))"
	checkMachines(t, []machineCase{
		{"(app x (app (lam y y) z))", "p.", "x", 1, "(app x (app (lam z0 z0) z))"},
		{"(app (app x (app (lam y y) z)) (lam y (app (lam v v) y)))", "pp.", "x", 2, "(app (app x (app (lam z0 z0) z)) (lam z1 (app (lam z2 z2) z1)))"},
		{"(app (lam x (app y (app (lam v v) x))) (app (lam v v) z))", "ptp.", "y", 1, "(app y (app (lam z0 z0) (app (lam z1 z1) z)))"},
		{"(app x " + endless + ")", "p.", "x", 1, "(app x " + loop + ")"},
		{"(app (lam v (app x v)) " + endless + ")", "ptp.", "x", 1, "(app x " + loop + ")"},
		{"(app (lam x y) " + endless + ")", "pt.", "y", 0, "y"},
		{"(app (lam x y) " + growing + ")", "pt.", "y", 0, "y"},
		{"(app (app (lam x (lam w w)) " + endless + ") z)", "ppttl.", "z", 0, "z"},
		{"(app (app (lam x (lam w x)) z) " + endless + ")", "ppttl.", "z", 0, "z"},
		{"(lam v (app (lam x (app v z)) " + growing + "))", "optp.", "v", 1, "(lam z0 (app z0 z))"},
	})
}

// A name that stands twice in an environment: the last one counts, be it with a closure or with nothing.
func TestMachineNameTwice(t *testing.T) {
	checkMachines(t, []machineCase{
		{"(app (app (lam x (lam x x)) a) b)", "ppttl.", "b", 0, "b"},
		{"(app (app (lam x (lam x (app y x))) a) b)", "ppttp.", "y", 1, "(app y b)"},
		{"(app (app (app (lam x (lam y (lam x (app x y)))) a) b) c)", "ppptttpl.", "c", 1, "(app c b)"},
		{"(lam x (lam x x))", "oo.", "x", 0, "(lam z0 (lam z1 z1))"},
		{"(lam x (lam x (app y x)))", "oop.", "y", 1, "(lam z0 (lam z1 (app y z1)))"},
		// Nothing behind a closure, and a closure behind nothing.
		{"(app (lam x (lam x x)) a)", "pto.", "x", 0, "(lam z0 z0)"},
		{"(app (lam x (lam x (app x x))) a)", "ptop.", "x", 1, "(lam z0 (app z0 z0))"},
		{"(lam x (app (lam x x) a))", "optl.", "a", 0, "(lam z0 a)"},
		{"(lam x (app (lam x (app x x)) a))", "optpl.", "a", 1, "(lam z0 (app a a))"},
		// The second term has the one ahead of it.
		{"(app (lam x (app (lam x (app y x)) x)) z)", "ptptp.", "y", 1, "(app y z)"},
		{"(app (lam x (app (lam x x) (app x x))) z)", "ptptlpl.", "z", 1, "(app z z)"},
		{"(lam x (app (lam x (app (lam x (app x x)) (app x x))) (app x a)))", "optptplplp.", "x", 3, "(lam z0 (app (app (app z0 a) (app z0 a)) (app (app z0 a) (app z0 a))))"},
		// In a closure on the stack, a lam of its own counts more than its environment.
		{"(app (lam x (app y (lam x x))) z)", "ptp.", "y", 1, "(app y (lam z0 z0))"},
		{"(app (lam x (app y (app x (lam x (app x x))))) z)", "ptp.", "y", 1, "(app y (app z (lam z0 (app z0 z0))))"},
		{"(lam x (app y (app x (lam x (app x (lam x x))))))", "op.", "y", 1, "(lam z0 (app y (app z0 (lam z1 (app z1 (lam z2 z2))))))"},
	})
}

// A bound name with the text of a free one, and closures under lams whose names are free in them.
func TestMachineSameNames(t *testing.T) {
	checkMachines(t, []machineCase{
		{"(app x (lam x x))", "p.", "x", 1, "(app x (lam z0 z0))"},
		{"(app (lam x (app y x)) x)", "ptp.", "y", 1, "(app y x)"},
		{"(app (lam x (app x x)) x)", "ptpl.", "x", 1, "(app x x)"},
		{"(app (lam y (lam x y)) x)", "ptol.", "x", 0, "(lam z0 x)"},
		{"(app (lam y (lam x x)) x)", "pto.", "x", 0, "(lam z0 z0)"},
		{"(app (lam y (lam x (app x y))) x)", "ptop.", "x", 1, "(lam z0 (app z0 x))"},
		{"(app (lam y (lam x (app y x))) x)", "ptopl.", "x", 1, "(lam z0 (app x z0))"},
		// Names of the canonical term that are free.
		{"(app (lam x (lam w (app w x))) z0)", "ptop.", "w", 1, "(lam z1 (app z1 z0))"},
		{"(app (lam x (lam z0 (app z0 x))) z0)", "ptop.", "z0", 1, "(lam z1 (app z1 z0))"},
		{"(lam z1 (lam z0 (app (app z1 z0) z2)))", "oopp.", "z1", 2, "(lam z0 (lam z1 (app (app z0 z1) z2)))"},
		// Under a lam in a closure, of the stack or put for a name.
		{"(app (lam x (app y (lam z (app z x)))) z)", "ptp.", "y", 1, "(app y (lam z0 (app z0 z)))"},
		{"(lam z (app (lam x (app y (lam z (app z x)))) z))", "optp.", "y", 1, "(lam z0 (app y (lam z1 (app z1 z0))))"},
		{"(lam z (app y (lam x (app x (lam z (app z x))))))", "op.", "y", 1, "(lam z0 (app y (lam z1 (app z1 (lam z2 (app z2 z1))))))"},
		{"(app (lam x (app (lam v (app y (lam x (app x v)))) (lam x x))) z)", "ptptp.", "y", 1, "(app y (lam z0 (app z0 (lam z1 z1))))"},
		{"(app (lam x (app (lam v (app y (lam x (app x v)))) (lam w (app w x)))) w)", "ptptp.", "y", 1, "(app y (lam z0 (app z0 (lam z1 (app z1 w)))))"},
		{"(lam w (app (lam x (app y (lam w (lam x (app (app x w) (lam y x)))))) w))", "optp.", "y", 1, "(lam z0 (app y (lam z1 (lam z2 (app (app z2 z1) (lam z3 z2))))))"},
		{"(lam w (app (lam x (app y (lam w (lam v (app (app x w) (app v x)))))) (app w v)))", "optp.", "y", 1, "(lam z0 (app y (lam z1 (lam z2 (app (app (app z0 v) z1) (app z2 (app z0 v)))))))"},
		// The same closure under different numbers of lams.
		{"(lam w (app (lam x (app (app y x) (lam a (app x (lam b (app x a)))))) (lam v (app v w))))", "optpp.", "y", 2,
			"(lam z0 (app (app y (lam z1 (app z1 z0))) (lam z2 (app (lam z3 (app z3 z0)) (lam z4 (app (lam z5 (app z5 z0)) z2))))))"},
		// Opens between: closures that were made within fewer of them.
		{"(app (lam x (lam a (app (lam y (lam b (app (app (app b y) x) a))) (app a x)))) w)", "ptoptoppp.", "b", 3, "(lam z0 (lam z1 (app (app (app z1 (app z0 w)) w) z0)))"},
		{"(lam a (app (lam x (lam b (app (lam y (lam c (app (app y x) (app a (app b c))))) (app b x)))) a))", "optoptopplp.", "b", 3, "(lam z0 (lam z1 (lam z2 (app (app (app z1 z0) z0) (app z0 (app z1 z2))))))"},
	})
}

// passes puts a term for the name a1, and a1 again for another a1, and so on, c times more.
// From a1 in the body there are c+1 lookups to the term.
func passes(c int, body, s string) string {
	return "(app (lam a1 " + strings.Repeat("(app (lam a1 ", c) + body + strings.Repeat(") a1)", c) + ") " + s + ")"
}

// applied has second terms behind a term, one after the other.
func applied(s string, args ...string) string {
	for _, arg := range args {
		s = "(app " + s + " " + arg + ")"
	}
	return s
}

// passedRun uses n times a term that leaves what it is applied to, each time behind c+1 lookups, and then does as the end does.
// It makes 2(c+1) + n(c+4) moves ahead of this.
func passedRun(c, n int, end machineCase) machineCase {
	body := strings.Repeat("(app a1 ", n) + end.s + strings.Repeat(")", n)
	use := "p" + strings.Repeat("l", c+1) + "tl"
	end.s = passes(c, body, same)
	end.trace = strings.Repeat("pt", c+1) + strings.Repeat(use, n) + end.trace
	return end
}

// opened has n more opens at the beginning.
func opened(t *testing.T, n int, c machineCase) machineCase {
	t.Helper()
	lams, ends := strings.Repeat("(lam v ", n), strings.Repeat(")", n)
	c.s = lams + c.s + ends
	c.trace = strings.Repeat("o", n) + c.trace
	c.normal = canonOf(t, lams+c.normal+ends)
	return c
}

// lastMoves are ends: with a move of each kind as the last one.
func lastMoves() []machineCase {
	return []machineCase{
		{"y", ".", "y", 0, "y"},
		{"(app y w)", "p.", "y", 1, "(app y w)"},
		{"(lam x y)", "o.", "y", 0, "(lam z0 y)"},
		{"(app (lam x y) w)", "pt.", "y", 0, "y"},
		{"(app (lam x x) y)", "ptl.", "y", 0, "y"},
	}
}

// Just MovesMax moves, and one more. NormalOf succeeds for both.
func TestMachineMovesMax(t *testing.T) {
	for _, end := range lastMoves() {
		run := passedRun(46, 58, end)
		for more := -2; more <= 3; more++ {
			moves := impl.MovesMax + more
			c := opened(t, moves+1-len(run.trace), run)
			if len(c.trace)-1 != moves {
				t.Fatalf("the run of %.80q has %d moves, not %d", c.s, len(c.trace)-1, moves)
			}
			if moves <= impl.MovesMax {
				checkMachines(t, []machineCase{c})
				continue
			}
			checkNoMachine(t, c.s)
			if normal, _, ok := impl.NormalOf("head", c.s); !ok || normal != c.normal {
				t.Errorf("NormalOf head of %.80q returned %q, %v", c.s, normal, ok)
			}
		}
	}
}

// Runs of about 300 moves, of just so many, and of more: the greatest n leaves out the dot, or moves.
func TestMachineTraceMax(t *testing.T) {
	run := passedRun(9, 21, lastMoves()[0])
	for moves := 296; moves <= 304; moves++ {
		c := opened(t, moves+1-len(run.trace), run)
		checkMachines(t, []machineCase{c})
		got, ok := impl.MachineTrace(c.s, 300)
		if want := min(moves+1, 300); !ok || len(got) != want || strings.HasSuffix(got, ".") != (moves < 300) {
			t.Errorf("MachineTrace of %d moves has %d letters, %v: %q", moves, len(got), ok, got)
		}
	}
	for _, n := range []int{30, 40, 50} {
		checkMachines(t, []machineCase{passedRun(40, n, lastMoves()[1])})
	}
}

// A term without head normal term needs more moves than there may be.
func TestMachineEndless(t *testing.T) {
	for _, s := range []string{
		endless, growing, "(lam x " + endless + ")", "(app " + endless + " x)", "(lam y (app " + growing + " y))", "(app (lam x x) " + endless + ")",
		"(app (lam x (app x y)) " + endless + ")", "(app (app (lam x (lam y x)) " + endless + ") z)", "(app (lam x (lam y (app x x))) (lam x (lam y (app x x))))",
		"(app (lam x (app (app x x) y)) (lam x (app (app x x) y)))", "(app (lam f (app (lam x (app f (app x x))) (lam x (app f (app x x))))) (lam v v))",
	} {
		checkNoMachine(t, s)
		if _, _, ok := impl.NormalOf("head", s); ok {
			t.Errorf("NormalOf head of %q succeeds", s)
		}
	}
}

// goneThrough is y applied to n times the name a1, which stands for a term behind c+1 lookups, and then to other terms.
// For each a1 in a second term, c+1 names are gone through, and then the term.
func goneThrough(t *testing.T, c, n int, term string, others ...string) machineCase {
	t.Helper()
	args := append(slices.Repeat([]string{"a1"}, n), others...)
	body := applied("y", args...)
	trace := strings.Repeat("pt", c+1) + strings.Repeat("p", len(args)) + "."
	return machineCase{passes(c, body, term), trace, "y", len(args), canonOf(t, strings.ReplaceAll(body, "a1", term))}
}

// checkThrough expects MachineNormal to fail if more than twice TermMax are gone through, and all else to succeed.
func checkThrough(t *testing.T, c machineCase, through int) {
	t.Helper()
	if through <= 2*impl.TermMax {
		checkMachines(t, []machineCase{c})
		return
	}
	if normal, _, ok := impl.NormalOf("head", c.s); !ok || normal != c.normal || !impl.MachineAgrees(c.s) {
		t.Errorf("NormalOf head of %.80q returned %.80q, %v", c.s, normal, ok)
	}
	c.normal = ""
	checkMachine(t, c)
}

// Just twice TermMax names, lam and app are gone through, or one or two less or more, though what results is a term.
func TestMachineNormalThrough(t *testing.T) {
	for _, c := range []struct{ c, n, through int }{
		{38, 20, 800}, {48, 16, 800}, {23, 32, 800}, {45, 17, 799}, {40, 19, 798}, {47, 16, 784}, {87, 9, 801}, {87, 8, 712}, {45, 16, 752}, {38, 19, 760}, {40, 18, 756},
	} {
		for _, other := range []struct {
			args    []string
			through int
		}{
			{nil, 0},
			{[]string{"w"}, 1},
			{[]string{"w", "w"}, 2},
			{[]string{"(lam v w)"}, 2},
			{[]string{"(lam v v)"}, 2},
			{[]string{"w", "(lam v v)"}, 3},
			{[]string{"(app w w)"}, 3},
			{[]string{"(lam v (lam w w))"}, 3},
			{[]string{"(app w (lam v v))"}, 4},
			{[]string{"(app w w)", "(lam v (app v (app w w)))"}, 9},
			// The closure is counted also within lam and app.
			{[]string{"(lam v a1)"}, c.c + 3},
			{[]string{"(app a1 w)"}, c.c + 4},
			{[]string{"(app a1 w)", "w"}, c.c + 5},
			{[]string{"(lam v (app w a1))"}, c.c + 5},
			{[]string{"(app a1 (lam a1 a1))"}, c.c + 5},
		} {
			run := goneThrough(t, c.c, c.n, "z", other.args...)
			checkThrough(t, run, c.through+other.through)
		}
	}
}

// The closures alone are gone through: not the opens, the name at the end, and the app that the closures are second terms of.
func TestMachineNormalThroughClosures(t *testing.T) {
	for n := range 6 {
		checkThrough(t, opened(t, n, goneThrough(t, 38, 20, "z")), 800)
		checkThrough(t, opened(t, n, goneThrough(t, 38, 20, "z", "w")), 801)
	}
}

// What is in the closure of a name is gone through as often as the name is.
func TestMachineNormalThroughPut(t *testing.T) {
	for _, c := range []struct {
		term string
		size int // of names, lam and app
	}{{"z", 1}, {same, 2}, {"(app z z)", 3}, {"(lam x (app x z))", 4}, {"(app z " + same + ")", 4}, {"(app z (app z z))", 5}, {endless, 9}} {
		for n := 5; n <= 20; n++ {
			lookups := 800/n - c.size
			if n*lookups >= 600 && lookups <= 80 {
				through := n * (lookups + c.size)
				checkThrough(t, goneThrough(t, lookups-1, n, c.term, slices.Repeat([]string{"w"}, 800-through)...), 800)
				checkThrough(t, goneThrough(t, lookups-1, n, c.term, slices.Repeat([]string{"w"}, 801-through)...), 801)
			}
		}
	}
}

// What results has at most TermMax atoms: that is 399, since each term has an odd number.
func TestMachineNormalTermMax(t *testing.T) {
	const twice = "(app (lam x (app (app y x) x)) "
	for _, c := range []struct {
		s, trace, name string
		args, atoms    int
	}{
		{twice + leftApps(98) + ")", "ptpp.", "y", 2, 397},
		{twice + leftApps(99) + ")", "ptpp.", "y", 2, 401},
		{applied(twice+leftApps(98)+")", "w"), "pptpp.", "y", 3, 399},
		{applied(twice+leftApps(98)+")", "w", "w"), "ppptpp.", "y", 4, 401},
		{"(lam v " + twice + leftApps(98) + "))", "optpp.", "y", 2, 399},
		{"(lam v (lam v " + twice + leftApps(98) + ")))", "ooptpp.", "y", 2, 401},
		{twice + deepLams(98) + ")", "ptpp.", "y", 2, 397},
		{twice + deepLams(99) + ")", "ptpp.", "y", 2, 401},
		{"(app (lam x (lam v (app v (app x x)))) " + leftApps(98) + ")", "ptop.", "v", 1, 399},
		{"(app (lam x (lam v (app v (app x x)))) " + leftApps(99) + ")", "ptop.", "v", 1, 403},
		{"(app (lam x (lam v (app v (app x (lam w x))))) " + leftApps(98) + ")", "ptop.", "v", 1, 401},
		{leftApps(199), strings.Repeat("p", 199) + ".", "x", 199, 399},
		{rightApps(199), "p.", "x", 1, 399},
		{deepLams(199), strings.Repeat("o", 199) + ".", "x", 0, 399},
	} {
		normal := ""
		if c.atoms <= impl.TermMax {
			normal, _, _ = impl.NormalOf("head", c.s)
			if atoms := strings.Count(normal, " ") + 1; atoms != c.atoms {
				t.Fatalf("NormalOf head of %.80q has %d atoms", c.s, atoms)
			}
		}
		checkMachine(t, machineCase{c.s, c.trace, c.name, c.args, normal})
		if impl.MachineAgrees(c.s) != (normal != "") {
			t.Errorf("MachineAgrees of %.80q is %v", c.s, normal == "")
		}
	}
}

// There can be more opens than a term has lams.
func TestMachineNormalManyOpens(t *testing.T) {
	for n := 90; n <= 110; n++ {
		// The term that is used n times opens two lams each time.
		s := "(app (lam f " + strings.Repeat("(app f ", n) + "y" + strings.Repeat(")", n) + ") (lam q (lam v (lam w q))))"
		c := machineCase{s, "pt" + strings.Repeat("pltool", n) + ".", "y", 0, ""}
		if 2*n <= 199 {
			c.normal = canonOf(t, strings.Repeat("(lam v ", 2*n)+"y"+strings.Repeat(")", 2*n))
		}
		checkMachine(t, c)
		if _, _, ok := impl.NormalOf("head", s); ok != impl.MachineAgrees(s) {
			t.Errorf("MachineAgrees of %.80q is %v, and NormalOf head %v", s, !ok, ok)
		}
	}
}

func TestMachineAgrees(t *testing.T) {
	large := "(app (lam x (app (app (lam a (lam b b)) (app x x)) y)) " + leftApps(110) + ")"
	for _, c := range []struct {
		s           string
		run, normal bool
	}{
		{"x", true, true},
		{"(app (lam x x) y)", true, true},
		{"(app (lam x (app x x)) (lam y y))", true, true},
		{"(app x " + endless + ")", true, true},
		{waits(185), true, true},
		{waits(impl.StepsMax), true, true},
		{block(50, "y"), true, true},
		// Too many steps, or a step to what is no term.
		{waits(impl.StepsMax + 1), true, false},
		{waits(impl.StepsMax + 5), true, false},
		{"(lam v " + waits(impl.StepsMax+1) + ")", true, false},
		{large, true, false},
		{strings.Replace(large, leftApps(110), leftApps(90), 1), true, true},
		{"(app (lam x (app y (app x x))) " + leftApps(99) + ")", true, false},
		// Too many moves.
		{passedRun(46, 59, lastMoves()[0]).s, false, true},
		{passedRun(60, 60, lastMoves()[0]).s, false, true},
		// None of both.
		{endless, false, false},
		{growing, false, false},
		{"", false, false},
		{"xy", false, false},
	} {
		if _, ok := impl.MachineRun(c.s); ok != c.run {
			t.Errorf("MachineRun of %.80q: %v", c.s, ok)
		}
		if _, _, ok := impl.NormalOf("head", c.s); ok != c.normal {
			t.Errorf("NormalOf head of %.80q: %v", c.s, ok)
		}
		if got := impl.MachineAgrees(c.s); got != (c.run && c.normal) {
			t.Errorf("MachineAgrees of %.80q is %v", c.s, got)
		}
	}
}

// Where NormalOf fails, the machine tells what it did all the same.
func TestMachineWithoutNormalOf(t *testing.T) {
	for n := impl.StepsMax + 1; n < impl.StepsMax+20; n++ {
		r, ok := impl.MachineRun(waits(n))
		if normal, okNormal := impl.MachineNormal(waits(n)); !ok || !okNormal || r.Takes != n || r.Name != "y" || r.Args != 0 || normal != "y" {
			t.Errorf("MachineRun of %.80q returned %+v, %v, and MachineNormal %q", waits(n), r, ok, normal)
		}
	}
}

func TestMachineInvalid(t *testing.T) {
	for _, s := range noTerms() {
		checkNoMachine(t, s)
	}
}

// Results are new memory.
func TestMachineResults(t *testing.T) {
	for _, c := range []struct{ s, name, trace, normal string }{
		{"(app x12 y)", "x12", "p.", "(app x12 y)"},
		{"(lam x12 (app x12 y))", "x12", "op.", "(lam z0 (app z0 y))"},
		{"x12", "x12", ".", "x12"},
	} {
		s := strings.Clone(c.s)
		var results []string
		for range 2 {
			r, _ := impl.MachineRun(s)
			trace, _ := impl.MachineTrace(s, 300)
			normal, _ := impl.MachineNormal(s)
			if r.Name != c.name || trace != c.trace || normal != c.normal {
				t.Errorf("%q has the name %q, the trace %q and the normal term %q", s, r.Name, trace, normal)
			}
			results = append(results, r.Name, trace, normal)
		}
		for i, result := range results {
			for _, other := range append(results[:i:i], s) {
				if shareMemory(result, other) {
					t.Errorf("result %d of %q shares memory", i, s)
				}
			}
		}
	}
}
