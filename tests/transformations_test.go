package tests

import (
	"slices"
	"strings"
	"testing"
	"unsafe"

	"loop.example/intersectiontypes/impl"
)

// movesCase is a derivation for a term, the one behind the step, and how many steps fewer this has.
type movesCase struct {
	kind, s, d, next string
	moved            int
}

// checkMoves expects the step to lead from one to the other, and the step back from this to the first.
func checkMoves(t *testing.T, list []movesCase) {
	t.Helper()
	for _, c := range list {
		of := []string{c.kind}
		if c.kind == "both" {
			of = kinds()
		}
		for _, kind := range of {
			checkMove(t, kind, c)
		}
	}
}

func checkMove(t *testing.T, kind string, c movesCase) {
	t.Helper()
	if got, ok := impl.DeriveStep(kind, c.s, c.d); !ok || got != c.next {
		t.Errorf("DeriveStep %s for %.100q of %.100q returned %.200q, %v", kind, c.s, c.d, got, ok)
	}
	if got, ok := impl.DeriveBack(kind, c.s, c.next); !ok || got != c.d {
		t.Errorf("DeriveBack %s for %.100q of %.100q returned %.200q, %v", kind, c.s, c.next, got, ok)
	}
	if got, ok := impl.DeriveMany(kind, c.s, c.d, 1); !ok || got != c.next {
		t.Errorf("DeriveMany %s for %.100q of %.100q and 1 returned %.200q, %v", kind, c.s, c.d, got, ok)
	}
	if n, ok := impl.DeriveMoved(kind, c.s, c.d); !ok || n != c.moved {
		t.Errorf("DeriveMoved %s for %.100q of %.100q returned %d, %v", kind, c.s, c.d, n, ok)
	}
}

// No node stands for the second term of the redex.
func TestMoveNotUsed(t *testing.T) {
	checkMoves(t, []movesCase{
		// The name does not stand in the term.
		{"both", "(app (lam x y) z)", "(app (fun (ax n)))", "(ax n)", 1},
		{"both", "(app (lam x y) x)", "(app (fun (ax a)))", "(ax a)", 1},
		{"both", "(app (lam x y) " + endless + ")", "(app (fun (ax (> (m) a))))", "(ax (> (m) a))", 1},
		{"both", "(app (lam x y) (app (lam x y) z))", "(app (fun (ax n)))", "(ax n)", 1},
		{"both", "(app (lam x (lam x x)) y)", "(app (fun (fun (ax a))))", "(fun (ax a))", 1},
		{"both", "(app (lam x (lam y y)) y)", "(app (fun (tfun (ax n))))", "(tfun (ax n))", 1},
		{"both", "(app (lam x (app y z)) w)", "(app (fun (app (ax (> (m a b) c)) (ax a) (ax b))))", "(app (ax (> (m a b) c)) (ax a) (ax b))", 1},
		{"head", "(app (lam x (app y z)) w)", "(app (fun (hap (ax n))))", "(hap (ax n))", 1},
		{"full", "(app (lam x (app y z)) w)", "(app (fun (tap (ax n) (ax l))))", "(tap (ax n) (ax l))", 1},
		{"both", "(app (app (lam x y) z) z)", "(app (app (fun (ax (> (m a) b)))) (ax a))", "(app (ax (> (m a) b)) (ax a))", 1},
		// It stands there, but no node stands for it.
		{"both", "(app (lam x (app y x)) z)", "(app (fun (app (ax (> (m) a)))))", "(app (ax (> (m) a)))", 1},
		{"both", "(app (lam x (app y x)) " + endless + ")", "(app (fun (app (ax (> (m) a)))))", "(app (ax (> (m) a)))", 1},
		{"both", "(app (lam x (app y (lam z (app x x)))) z)", "(app (fun (app (ax (> (m) n)))))", "(app (ax (> (m) n)))", 1},
		{"both", "(app (lam x (app (app y x) z)) z)", "(app (fun (app (app (ax (> (m) (> (m a) b)))) (ax a))))", "(app (app (ax (> (m) (> (m a) b)))) (ax a))", 1},
		{"both", "(app (lam x (app (lam w y) x)) z)", "(app (fun (app (fun (ax n)))))", "(app (fun (ax n)))", 1},
		{"head", "(app (lam x (app y x)) z)", "(app (fun (hap (ax n))))", "(hap (ax n))", 1},
	})
}

func TestMoveUsedOnce(t *testing.T) {
	checkMoves(t, []movesCase{
		{"both", "(app (lam x x) y)", "(app (fun (ax n)) (ax n))", "(ax n)", 1},
		{"both", "(app (lam x x) x)", "(app (fun (ax (> (m a) b))) (ax (> (m a) b)))", "(ax (> (m a) b))", 1},
		{"both", "(app (lam x x) (lam x x))", "(app (fun (ax (> (m a) a))) (fun (ax a)))", "(fun (ax a))", 1},
		{"both", "(app (lam x x) (lam x x))", "(app (fun (ax l)) (tfun (ax n)))", "(tfun (ax n))", 1},
		{"both", "(app (lam x (lam y x)) z)", "(app (fun (fun (ax a))) (ax a))", "(fun (ax a))", 1},
		{"both", "(app (lam x (lam y x)) z)", "(app (fun (tfun (ax n))) (ax n))", "(tfun (ax n))", 1},
		{"both", "(app (lam x (app y x)) z)", "(app (fun (app (ax (> (m a) b)) (ax a))) (ax a))", "(app (ax (> (m a) b)) (ax a))", 1},
		{"head", "(app (lam x (app x y)) z)", "(app (fun (hap (ax n))) (ax n))", "(hap (ax n))", 1},
		{"full", "(app (lam x (app y x)) z)", "(app (fun (tap (ax n) (ax l))) (ax l))", "(tap (ax n) (ax l))", 1},
		// The name stands there twice, and a node stands for it at one of both.
		{"both", "(app (lam x (app x x)) y)", "(app (fun (app (ax (> (m) a)))) (ax (> (m) a)))", "(app (ax (> (m) a)))", 1},
		{"both", "(app (lam x (app (app y x) x)) z)", "(app (fun (app (app (ax (> (m) (> (m a) b)))) (ax a))) (ax a))", "(app (app (ax (> (m) (> (m a) b)))) (ax a))", 1},
		// It is bound once more within.
		{"both", "(app (lam x (app (lam x x) x)) (app y z))", "(app (fun (app (fun (ax a)) (ax a))) (app (ax (> (m) a))))", "(app (fun (ax a)) (app (ax (> (m) a))))", 1},
		{"both", "(app (lam x (app x (lam x x))) y)", "(app (fun (app (ax (> (m (> (m a) a)) b)) (fun (ax a)))) (ax (> (m (> (m a) a)) b)))", "(app (ax (> (m (> (m a) a)) b)) (fun (ax a)))", 1},
		{"both", "(app (lam x (app (app z (lam x x)) x)) (app y w))", "(app (fun (app (app (ax (> (m (> (m a) a)) (> (m a) b))) (fun (ax a))) (ax a))) (app (ax (> (m) a))))",
			"(app (app (ax (> (m (> (m a) a)) (> (m a) b))) (fun (ax a))) (app (ax (> (m) a))))", 1},
		// A name beside it is bound with as many lams around.
		{"both", "(app (lam x (app (app z (lam w w)) (lam w x))) (app y y))", "(app (fun (app (app (ax (> (m (> (m a) a)) (> (m (> (m) a)) b))) (fun (ax a))) (fun (ax a)))) (app (ax (> (m) a))))",
			"(app (app (ax (> (m (> (m a) a)) (> (m (> (m) a)) b))) (fun (ax a))) (fun (app (ax (> (m) a)))))", 1},
	})
}

// yz and its like are derivations of the type a for (app y z), all of them different.
const (
	yz0 = "(app (ax (> (m) a)))"
	yz1 = "(app (ax (> (m c) a)) (ax c))"
	yz2 = "(app (ax (> (m c c) a)) (ax c) (ax c))"
	// Those of other types come ahead of them and behind.
	yzFun = "(app (ax (> (m) (> (m) a))))"
	yzB   = "(app (ax (> (m) b)))"
	yzB1  = "(app (ax (> (m c) b)) (ax c))"
)

// Each ax gets the first derivation with its type that was not yet used.
func TestMoveUsedMore(t *testing.T) {
	wxx := "(app (lam x (app (app w x) x)) (app y z))"
	wxxx := "(app (lam x (app (app (app w x) x) x)) (app y z))"
	wx := "(app (lam x (app w x)) (app y z))"
	aa, ab, ba := "(ax (> (m a) (> (m a) d)))", "(ax (> (m a) (> (m b) d)))", "(ax (> (m b) (> (m a) d)))"
	bab := "(ax (> (m b) (> (m a) (> (m b) d))))"
	bFunA := "(ax (> (m b) (> (m (> (m) a)) (> (m a) d))))"
	aba := "(ax (> (m a b) (> (m a) (> (m) d))))"
	checkMoves(t, []movesCase{
		// Equal types.
		{"both", wxx, "(app (fun (app (app " + aa + " (ax a)) (ax a))) " + yz0 + " " + yz1 + ")", "(app (app " + aa + " " + yz0 + ") " + yz1 + ")", 1},
		{"both", wxx, "(app (fun (app (app " + aa + " (ax a)) (ax a))) " + yz1 + " " + yz0 + ")", "(app (app " + aa + " " + yz1 + ") " + yz0 + ")", 1},
		{"both", wxx, "(app (fun (app (app " + aa + " (ax a)) (ax a))) " + yz1 + " " + yz1 + ")", "(app (app " + aa + " " + yz1 + ") " + yz1 + ")", 1},
		{"both", wx, "(app (fun (app (ax (> (m a a a) d)) (ax a) (ax a) (ax a))) " + yz1 + " " + yz2 + " " + yz0 + ")", "(app (ax (> (m a a a) d)) " + yz1 + " " + yz2 + " " + yz0 + ")", 1},
		// Different ones, in the order of the bag and in another one.
		{"both", wxx, "(app (fun (app (app " + ab + " (ax a)) (ax b))) " + yz1 + " " + yzB + ")", "(app (app " + ab + " " + yz1 + ") " + yzB + ")", 1},
		{"both", wxx, "(app (fun (app (app " + ba + " (ax b)) (ax a))) " + yz1 + " " + yzB + ")", "(app (app " + ba + " " + yzB + ") " + yz1 + ")", 1},
		{"both", wxxx, "(app (fun (app (app (app " + bFunA + " (ax b)) (ax (> (m) a))) (ax a))) " + yzFun + " " + yz1 + " " + yzB + ")", "(app (app (app " + bFunA + " " + yzB + ") " + yzFun + ") " + yz1 + ")", 1},
		{"both", wx, "(app (fun (app (ax (> (m (> (m) a) a b) d)) (ax (> (m) a)) (ax a) (ax b))) " + yzFun + " " + yz0 + " " + yzB + ")", "(app (ax (> (m (> (m) a) a b) d)) " + yzFun + " " + yz0 + " " + yzB + ")", 1},
		// Both.
		{"both", wxxx, "(app (fun (app (app (app " + bab + " (ax b)) (ax a)) (ax b))) " + yz0 + " " + yzB + " " + yzB1 + ")", "(app (app (app " + bab + " " + yzB + ") " + yz0 + ") " + yzB1 + ")", 1},
		{"both", wxxx, "(app (fun (app (app (app " + bab + " (ax b)) (ax a)) (ax b))) " + yz0 + " " + yzB1 + " " + yzB + ")", "(app (app (app " + bab + " " + yzB1 + ") " + yz0 + ") " + yzB + ")", 1},
		{"both", wxxx, "(app (fun (app (app (app " + aba + " (ax a) (ax b)) (ax a)))) " + yz2 + " " + yz1 + " " + yzB + ")", "(app (app (app " + aba + " " + yz2 + " " + yzB + ") " + yz1 + "))", 1},
		// The name on the left.
		{"both", "(app (lam x (app x x)) y)", "(app (fun (app (ax (> (m a) b)) (ax a))) (ax (> (m a) b)) (ax a))", "(app (ax (> (m a) b)) (ax a))", 1},
		{"both", "(app (lam x (app x x)) y)", "(app (fun (app (ax (> (m a a) b)) (ax a) (ax a))) (ax (> (m a a) b)) (ax a) (ax a))", "(app (ax (> (m a a) b)) (ax a) (ax a))", 1},
		{"both", "(app (lam x (app x x)) (lam y y))", "(app (fun (app (ax (> (m l) l)) (ax l))) (fun (ax l)) (tfun (ax n)))", "(app (fun (ax l)) (tfun (ax n)))", 1},
		{"full", "(app (lam x (app x x)) y)", "(app (fun (tap (ax n) (ax l))) (ax l) (ax n))", "(tap (ax n) (ax l))", 1},
		{"full", "(app (lam x (app x x)) y)", "(app (fun (tap (ax n) (ax n))) (ax n) (ax n))", "(tap (ax n) (ax n))", 1},
		{"full", "(app (lam x (app (app x x) x)) (app y z))", "(app (fun (tap (tap (ax n) (ax n)) (ax n))) (tap (ax n) (ax l)) (tap (ax n) (ax n)) (app (ax (> (m) n))))", "(tap (tap (tap (ax n) (ax l)) (tap (ax n) (ax n))) (app (ax (> (m) n))))", 1},
	})
}

// Within the term the name stands behind lams, and in second terms that have several derivations or none.
func TestMoveUsedWithin(t *testing.T) {
	checkMoves(t, []movesCase{
		{"both", "(app (lam x (app w (app y x))) (app y z))",
			"(app (fun (app (ax (> (m c d) b)) (app (ax (> (m a a) c)) (ax a) (ax a)) (app (ax (> (m a b) d)) (ax a) (ax b)))) " + yz1 + " " + yz0 + " " + yz2 + " " + yzB + ")",
			"(app (ax (> (m c d) b)) (app (ax (> (m a a) c)) " + yz1 + " " + yz0 + ") (app (ax (> (m a b) d)) " + yz2 + " " + yzB + "))", 1},
		{"both", "(app (lam x (app (app w (app w x)) (app y x))) (app y z))",
			"(app (fun (app (app (ax (> (m) (> (m c) b)))) (app (ax (> (m a b) c)) (ax a) (ax b)))) " + yz0 + " " + yzB + ")",
			"(app (app (ax (> (m) (> (m c) b)))) (app (ax (> (m a b) c)) " + yz0 + " " + yzB + "))", 1},
		{"both", "(app (lam x (lam w (lam v (app (app v x) (lam u x))))) (app y z))",
			"(app (fun (fun (fun (app (app (ax (> (m b) (> (m (> (m) a) (> (m) b)) c))) (ax b)) (fun (ax a)) (fun (ax b)))))) " + yz0 + " " + yzB1 + " " + yzB + ")",
			"(fun (fun (app (app (ax (> (m b) (> (m (> (m) a) (> (m) b)) c))) " + yzB1 + ") (fun " + yz0 + ") (fun " + yzB + "))))", 1},
		{"head", "(app (lam x (lam w (app (app x x) w))) (app y z))", "(app (fun (tfun (hap (app (ax (> (m a) n)) (ax a))))) (app (ax (> (m) (> (m a) n)))) " + yz1 + ")", "(tfun (hap (app (app (ax (> (m) (> (m a) n)))) " + yz1 + ")))", 1},
		{"full", "(app (lam x (lam w (app (app w x) (lam v x)))) (app y z))", "(app (fun (tfun (tap (tap (ax n) (ax n)) (tfun (ax n))))) (tap (ax n) (ax l)) (tap (ax n) (ax n)))", "(tfun (tap (tap (ax n) (tap (ax n) (ax l))) (tfun (tap (ax n) (ax n)))))", 1},
	})
}

// The redex is the whole term, within lams, or the first term of app.
func TestMovePlaces(t *testing.T) {
	checkMoves(t, []movesCase{
		{"both", "(lam z (app (lam x x) z))", "(fun (app (fun (ax a)) (ax a)))", "(fun (ax a))", 1},
		{"both", "(lam z (app (lam x x) z))", "(tfun (app (fun (ax l)) (ax l)))", "(tfun (ax l))", 1},
		{"both", "(lam z (lam w (lam z (app (lam x (app x w)) z))))", "(fun (fun (fun (app (fun (app (ax (> (m n) n)) (ax n))) (ax (> (m n) n))))))", "(fun (fun (fun (app (ax (> (m n) n)) (ax n)))))", 1},
		{"both", "(lam x (app (lam x (lam y x)) x))", "(fun (app (fun (fun (ax a))) (ax a)))", "(fun (fun (ax a)))", 1},
		{"both", "(app (app (lam x x) y) z)", "(app (app (fun (ax (> (m a b) c))) (ax (> (m a b) c))) (ax a) (ax b))", "(app (ax (> (m a b) c)) (ax a) (ax b))", 1},
		{"both", "(app (app (lam x (lam y x)) z) w)", "(app (app (fun (fun (ax a))) (ax a)))", "(app (fun (ax a)))", 1},
		{"both", "(app (app (lam x (lam y y)) z) w)", "(app (app (fun (fun (ax a)))) (ax a))", "(app (fun (ax a)) (ax a))", 1},
		{"head", "(app (app (lam x x) y) z)", "(hap (app (fun (ax n)) (ax n)))", "(hap (ax n))", 1},
		{"head", "(lam v (app (app (app (lam x x) v) v) z))", "(tfun (hap (hap (app (fun (ax n)) (ax n)))))", "(tfun (hap (hap (ax n))))", 1},
		{"full", "(app (app (lam x x) y) z)", "(tap (app (fun (ax n)) (ax n)) (ax l))", "(tap (ax n) (ax l))", 1},
		{"full", "(lam v (app (app (app (lam x x) v) v) z))", "(tfun (tap (tap (app (fun (ax n)) (ax n)) (ax l)) (ax l)))", "(tfun (tap (tap (ax n) (ax l)) (ax l)))", 1},
		// Another redex in what the step does not touch stays.
		{"both", "(app (app (lam x x) y) (app (lam x x) z))", "(app (app (fun (ax (> (m a) b))) (ax (> (m a) b))) (app (fun (ax a)) (ax a)))", "(app (ax (> (m a) b)) (app (fun (ax a)) (ax a)))", 1},
		{"both", "(app (lam x (app (lam y y) x)) z)", "(app (fun (app (fun (ax a)) (ax a))) (ax a))", "(app (fun (ax a)) (ax a))", 1},
		{"both", "(app (lam x x) (app (lam y y) z))", "(app (fun (ax a)) (app (fun (ax a)) (ax a)))", "(app (fun (ax a)) (ax a))", 1},
	})
}

// The redex in the second term of an app stands for as many nodes as this term has derivations: a step of the kind full alone.
func TestMoveSecondTerms(t *testing.T) {
	inSecond := "(app y (app (lam x x) z))"
	one := func(a string) string { return "(app (fun (ax " + a + ")) (ax " + a + "))" }
	wxx := "(app v (app (lam x (app (app w x) x)) (app y z)))"
	aa, ba := "(ax (> (m a) (> (m a) d)))", "(ax (> (m b) (> (m a) d)))"
	checkMoves(t, []movesCase{
		// None.
		{"full", inSecond, "(app (ax (> (m) a)))", "(app (ax (> (m) a)))", 0},
		{"full", "(app y " + endless + ")", "(app (ax (> (m) a)))", "(app (ax (> (m) a)))", 0},
		{"full", "(lam z (app (app y " + endless + ") z))", "(fun (app (app (ax (> (m) (> (m a) b)))) (ax a)))", "(fun (app (app (ax (> (m) (> (m a) b)))) (ax a)))", 0},
		{"full", "(app y (app y " + inSecond + "))", "(app (ax (> (m a a) b)) (app (ax (> (m) a))) (app (ax (> (m) a))))", "(app (ax (> (m a a) b)) (app (ax (> (m) a))) (app (ax (> (m) a))))", 0},
		// One.
		{"full", inSecond, "(app (ax (> (m a) b)) " + one("a") + ")", "(app (ax (> (m a) b)) (ax a))", 1},
		{"full", inSecond, "(tap (ax n) " + one("l") + ")", "(tap (ax n) (ax l))", 1},
		{"full", "(app y (app (lam x w) z))", "(app (ax (> (m a) b)) (app (fun (ax a))))", "(app (ax (> (m a) b)) (ax a))", 1},
		{"full", "(app (app y z) (lam z (app (lam x (app x z)) z)))", "(tap (app (ax (> (m) n))) (tfun (app (fun (tap (ax n) (ax l))) (ax n))))", "(tap (app (ax (> (m) n))) (tfun (tap (ax n) (ax l))))", 1},
		{"full", "(app (app y (app (lam x x) z)) w)", "(tap (tap (ax n) " + one("n") + ") (ax n))", "(tap (tap (ax n) (ax n)) (ax n))", 1},
		// Several.
		{"full", inSecond, "(app (ax (> (m a b) c)) " + one("a") + " " + one("b") + ")", "(app (ax (> (m a b) c)) (ax a) (ax b))", 2},
		{"full", inSecond, "(app (ax (> (m (> (m) a) a a b) c)) " + one("(> (m) a)") + " " + one("a") + " " + one("a") + " " + one("b") + ")", "(app (ax (> (m (> (m) a) a a b) c)) (ax (> (m) a)) (ax a) (ax a) (ax b))", 4},
		{"full", "(app y (app (lam x w) " + endless + "))", "(app (ax (> (m a b) c)) (app (fun (ax a))) (app (fun (ax b))))", "(app (ax (> (m a b) c)) (ax a) (ax b))", 2},
		// Each of them has derivations of its own, as many as its name needs.
		{"full", wxx, "(app (ax (> (m d d) c)) (app (fun (app (app " + aa + " (ax a)) (ax a))) " + yz1 + " " + yz0 + ") (app (fun (app (app " + ba + " (ax b)) (ax a))) " + yz2 + " " + yzB + "))",
			"(app (ax (> (m d d) c)) (app (app " + aa + " " + yz1 + ") " + yz0 + ") (app (app " + ba + " " + yzB + ") " + yz2 + "))", 2},
		{"full", wxx, "(app (ax (> (m d d) c)) (app (fun (app (app (ax (> (m) (> (m) d))))))) (app (fun (app (app " + aa + " (ax a)) (ax a))) " + yz1 + " " + yz1 + "))",
			"(app (ax (> (m d d) c)) (app (app (ax (> (m) (> (m) d))))) (app (app " + aa + " " + yz1 + ") " + yz1 + "))", 2},
		// Several in one of several, and none in another one.
		{"full", "(app v " + inSecond + ")", "(app (ax (> (m c c c) d)) (app (ax (> (m a b) c)) " + one("a") + " " + one("b") + ") (app (ax (> (m) c))) (app (ax (> (m b) c)) " + one("b") + "))",
			"(app (ax (> (m c c c) d)) (app (ax (> (m a b) c)) (ax a) (ax b)) (app (ax (> (m) c))) (app (ax (> (m b) c)) (ax b)))", 3},
		{"full", "(app v (lam y " + inSecond + "))", "(app (ax (> (m (> (m (> (m a a) b)) b) (> (m (> (m) a)) a)) d)) (fun (app (ax (> (m a a) b)) " + one("a") + " " + one("a") + ")) (fun (app (ax (> (m) a)))))",
			"(app (ax (> (m (> (m (> (m a a) b)) b) (> (m (> (m) a)) a)) d)) (fun (app (ax (> (m a a) b)) (ax a) (ax a))) (fun (app (ax (> (m) a)))))", 2},
	})
	for _, d := range []string{"(app (ax (> (m) a)))", "(app (ax (> (m a) b)) " + one("a") + ")", "(hap (ax n))"} {
		checkNoMove(t, "head", inSecond, d)
		checkNoBack(t, "head", inSecond, d)
	}
}

// Bound names are renamed where they would bind a free one of what is put.
func TestMoveRenamed(t *testing.T) {
	checkMoves(t, []movesCase{
		{"both", "(app (lam x (lam y (app x y))) y)", "(app (fun (fun (app (ax (> (m a) b)) (ax a)))) (ax (> (m a) b)))", "(fun (app (ax (> (m a) b)) (ax a)))", 1},
		{"both", "(app (lam x (lam y (app y x))) y)", "(app (fun (fun (app (ax (> (m a) b)) (ax a)))) (ax a))", "(fun (app (ax (> (m a) b)) (ax a)))", 1},
		{"both", "(app (lam x (lam z0 (app x z0))) (app z0 z1))", "(app (fun (tfun (app (ax (> (m n) n)) (ax n)))) (app (ax (> (m) (> (m n) n)))))", "(tfun (app (app (ax (> (m) (> (m n) n)))) (ax n)))", 1},
		{"both", "(lam y (app (lam x (lam y (app y x))) (app y y)))", "(fun (app (fun (fun (app (ax (> (m a) b)) (ax a)))) (app (ax (> (m a a) a)) (ax a) (ax a))))", "(fun (fun (app (ax (> (m a) b)) (app (ax (> (m a a) a)) (ax a) (ax a)))))", 1},
		{"both", "(lam y (lam z (app (lam x (lam y (lam z (app (app x y) z)))) (app z y))))", "(fun (fun (app (fun (fun (fun (app (app (ax (> (m a) (> (m b) c))) (ax a)) (ax b))))) (app (ax (> (m d) (> (m a) (> (m b) c)))) (ax d)))))",
			"(fun (fun (fun (fun (app (app (app (ax (> (m d) (> (m a) (> (m b) c)))) (ax d)) (ax a)) (ax b))))))", 1},
	})
	// The bags tell which names stand for which.
	next, _ := impl.StepOf("full", "(app (lam x (lam y (app x y))) y)")
	if j := judgementOf("full", next, "(fun (app (ax (> (m a) b)) (ax a)))"); shown(j) != "y (m (> (m a) b)), (> (m a) b), 1, 0" {
		t.Errorf("the free name and the bound one derive %q for %q", shown(j), next)
	}
}

// What is put has lam and app of its own, and is put as a whole.
func TestMovePutTerms(t *testing.T) {
	checkMoves(t, []movesCase{
		{"both", "(app (lam x (app x y)) (lam z (app z w)))", "(app (fun (app (ax (> (m (> (m a) b)) b)) (ax (> (m a) b)))) (fun (app (ax (> (m a) b)) (ax a))))", "(app (fun (app (ax (> (m a) b)) (ax a))) (ax (> (m a) b)))", 1},
		{"both", "(app (lam x (app (app w x) x)) (lam y (lam z y)))", "(app (fun (app (app (ax (> (m (> (m n) l)) (> (m l) a))) (ax (> (m n) l))) (ax l))) (fun (tfun (ax n))) (tfun (tfun (ax l))))",
			"(app (app (ax (> (m (> (m n) l)) (> (m l) a))) (fun (tfun (ax n)))) (tfun (tfun (ax l))))", 1},
		{"both", "(app (lam x (app (app w x) x)) (lam y (lam z y)))", "(app (fun (app (app (ax (> (m l) (> (m (> (m n) l)) a))) (ax l)) (ax (> (m n) l)))) (fun (tfun (ax n))) (tfun (tfun (ax l))))",
			"(app (app (ax (> (m l) (> (m (> (m n) l)) a))) (tfun (tfun (ax l)))) (fun (tfun (ax n))))", 1},
		// A redex within what is put is twice there behind the step.
		{"both", "(app (lam x (app (app w x) x)) (app (lam x x) y))", "(app (fun (app (app (ax (> (m a) (> (m b) d))) (ax a)) (ax b))) (app (fun (ax a)) (ax a)) (app (fun (ax b)) (ax b)))",
			"(app (app (ax (> (m a) (> (m b) d))) (app (fun (ax a)) (ax a))) (app (fun (ax b)) (ax b)))", 1},
		{"head", "(app (lam x (app x z)) (app y w))", "(app (fun (hap (ax n))) (hap (ax n)))", "(hap (hap (ax n)))", 1},
		{"head", "(app (lam x (app w x)) (app y z))", "(app (fun (app (ax (> (m n n) l)) (ax n) (ax n))) (hap (ax n)) (app (ax (> (m) n))))", "(app (ax (> (m n n) l)) (hap (ax n)) (app (ax (> (m) n))))", 1},
		{"full", "(app (lam x (app x z)) (app y (lam v v)))", "(app (fun (tap (ax n) (ax n))) (tap (ax n) (tfun (ax n))))", "(tap (tap (ax n) (tfun (ax n))) (ax n))", 1},
	})
}

// The nodes of the second term are sorted byte by byte: those of a type of functions come first.
func TestBackSorts(t *testing.T) {
	types := inOrder()
	n := len(types)
	for _, order := range [][]int{{0, n - 1, n / 2}, {n - 1, 0, n / 2}, {n - 1, n - 2, 0}, {2, 1, 0}, {0, 1, 2}, {n - 1, n - 2, n - 3}, {10, 9, 10}, {5, 5, 4}} {
		from := "(app (app (app (ax (> (m " + types[order[0]] + ") (> (m " + types[order[1]] + ") (> (m " + types[order[2]] + ") a))))"
		ofX := ""
		for _, at := range order {
			ofX += " (ax " + types[at] + "))"
		}
		next := from + ofX
		slices.Sort(order)
		d := "(app (fun " + next + ")"
		for _, at := range order {
			d += " (ax " + types[at] + ")"
		}
		checkMoves(t, []movesCase{{"both", "(app (lam x (app (app (app w x) x) x)) y)", d + ")", next, 1}})
	}
}

// Many nodes of equal types, all in the order of the text.
func TestBackSortsMany(t *testing.T) {
	const uses = 24
	s, from, ofX, ofYZ := "w", "d", "", ""
	sorted := map[string]string{}
	for i := range uses {
		to, n := []string{"a", "b", "a"}[i%3], i*i%7%4
		yz := "(app (ax (> (m" + strings.Repeat(" c", n) + ") " + to + "))" + strings.Repeat(" (ax c)", n) + ")"
		s = "(app " + s + " x)"
		ofX += " (ax " + to + "))"
		ofYZ += " " + yz + ")"
		sorted[to] += " " + yz
	}
	for i := uses - 1; i >= 0; i-- {
		from = "(> (m " + []string{"a", "b", "a"}[i%3] + ") " + from + ")"
	}
	first := strings.Repeat("(app ", uses) + "(ax " + from + ")"
	d := "(app (fun " + first + ofX + ")" + sorted["a"] + sorted["b"] + ")"
	checkMoves(t, []movesCase{{"both", "(app (lam x " + s + ") (app y z))", d, first + ofYZ, 1}})
}

// checkNoMove expects no step of a derivation.
func checkNoMove(t *testing.T, kind string, s string, d string) {
	t.Helper()
	if got, ok := impl.DeriveStep(kind, s, d); ok || got != "" {
		t.Errorf("DeriveStep %.40q for %.80q of %.80q returned %.80q, %v", kind, s, d, got, ok)
	}
	if n, ok := impl.DeriveMoved(kind, s, d); ok || n != 0 {
		t.Errorf("DeriveMoved %.40q for %.80q of %.80q returned %d, %v", kind, s, d, n, ok)
	}
}

func checkNoBack(t *testing.T, kind string, s string, d string) {
	t.Helper()
	if got, ok := impl.DeriveBack(kind, s, d); ok || got != "" {
		t.Errorf("DeriveBack %.40q for %.80q of %.80q returned %.80q, %v", kind, s, d, got, ok)
	}
}

func checkNoMany(t *testing.T, kind string, s string, d string, n int) {
	t.Helper()
	if got, ok := impl.DeriveMany(kind, s, d, n); ok || got != "" {
		t.Errorf("DeriveMany %.40q for %.80q of %.80q and %d returned %.80q, %v", kind, s, d, n, got, ok)
	}
}

// checkNothing expects all functions to fail, whatever number is asked for.
func checkNothing(t *testing.T, kind string, s string, d string) {
	t.Helper()
	checkNoMove(t, kind, s, d)
	checkNoBack(t, kind, s, d)
	for _, n := range []int{-1 << 63, -1, 0, 1, 2, impl.StepsMax, impl.StepsMax + 1, 1<<63 - 1} {
		checkNoMany(t, kind, s, d, n)
	}
}

func TestMoveInvalid(t *testing.T) {
	const s, d = "(app (lam x x) y)", "(app (fun (ax n)) (ax n))"
	for _, kind := range kinds() {
		for _, other := range noDerivations() {
			checkNothing(t, kind, s, other)
			checkNothing(t, kind, "y", other)
		}
		for _, other := range noTerms() {
			for _, other2 := range []string{d, "(ax n)", "", "(ax)"} {
				checkNothing(t, kind, other, other2)
			}
		}
	}
	for _, kind := range noKinds() {
		for _, term := range []string{s, "y", "", "(lam x x)"} {
			for _, other := range []string{d, "(ax n)", "(fun (ax a))", ""} {
				checkNothing(t, kind, term, other)
			}
		}
	}
	// Each kind has nodes of its own.
	checkNothing(t, "full", "(app (lam x (app x x)) y)", "(app (fun (hap (ax n))) (ax n))")
	checkNothing(t, "full", "(app (lam x (app x x)) y)", "(hap (ax n))")
	checkNothing(t, "head", "(app (lam x (app x x)) y)", "(app (fun (tap (ax n) (ax n))) (ax n) (ax n))")
	checkNothing(t, "head", "(app (lam x (app x x)) y)", "(tap (ax n) (ax n))")
}

// A derivation of another term than the one it is asked for.
func TestMoveOtherTerm(t *testing.T) {
	const s = "(app (lam x (app y x)) z)"
	const d, next = "(app (fun (app (ax (> (m a) b)) (ax a))) (ax a))", "(app (ax (> (m a) b)) (ax a))"
	for _, kind := range kinds() {
		checkMove(t, kind, movesCase{kind, s, d, next, 1})
		// That of the term is none for what is behind the step, and the other way round.
		checkNoMove(t, kind, s, next)
		checkNoMany(t, kind, s, next, 0)
		checkNoBack(t, kind, s, d)
		for _, other := range []string{
			"(ax a)", "(ax n)", "(fun (ax a))", "(app (fun (ax a)) (ax a))", "(app (fun (app (ax (> (m a) b)) (ax a))))", "(app (fun (app (ax (> (m a) b)) (ax a))) (ax b))",
			"(app (fun (app (ax (> (m a) b)) (ax a))) (ax a) (ax a))", "(app (fun (app (ax (> (m a) b)) (ax a))) (fun (ax a)))", "(app (tfun (app (ax (> (m a) b)) (ax a))) (ax a))",
			"(fun (app (ax (> (m a) b)) (ax a)))", "(app (fun (app (ax (> (m) b)) (ax a))) (ax a))", "(app (ax (> (m a) b)) (ax b))", "(app (ax (> (m a) b)))", "(app (ax a) (ax a))",
			"(app (ax (> (m a) b)) (fun (ax a)))", "(app (ax (> (m a b) b)) (ax b) (ax a))",
		} {
			checkNothing(t, kind, s, other)
		}
		checkNothing(t, kind, "(app (lam x (app x y)) (lam z z))", d)
		checkNothing(t, kind, "(lam w "+s+")", d)
	}
	checkNothing(t, "head", s, "(hap (ax a))")
	checkNothing(t, "full", s, "(tap (ax n) (ax a))")
}

// A term that is normal for the kind has no step, and DeriveMany leaves its derivation.
func TestMoveNormal(t *testing.T) {
	for _, c := range []struct{ kind, s, d string }{
		{"both", "x", "(ax a)"}, {"both", "(lam x x)", "(fun (ax a))"}, {"both", "(lam x x)", "(tfun (ax n))"},
		{"both", "(app x y)", "(app (ax (> (m a a) b)) (ax a) (ax a))"}, {"head", "(app x y)", "(hap (ax n))"}, {"full", "(app x y)", "(tap (ax n) (ax l))"},
		{"head", "(app x (app (lam y y) z))", "(app (ax (> (m a) b)) (app (fun (ax a)) (ax a)))"}, {"head", "(app x " + endless + ")", "(hap (ax n))"},
		{"head", "(lam x (app (app x (app (lam y y) x)) z))", "(tfun (hap (hap (ax n))))"},
	} {
		for _, kind := range kinds() {
			if c.kind != "both" && c.kind != kind {
				continue
			}
			checkNoMove(t, kind, c.s, c.d)
			checkNoBack(t, kind, c.s, c.d)
			for _, n := range []int{0, 1, 2, impl.StepsMax} {
				if got, ok := impl.DeriveMany(kind, c.s, c.d, n); !ok || got != c.d {
					t.Errorf("DeriveMany %s for %q of %q and %d returned %q, %v", kind, c.s, c.d, n, got, ok)
				}
			}
			checkNoMany(t, kind, c.s, c.d, -1)
			checkNoMany(t, kind, c.s, c.d, impl.StepsMax+1)
		}
	}
}

// tooLong is a term whose step puts a term with 2n+1 atoms in three places, and a derivation of the kind head for it.
func tooLong(n int) (string, string) {
	return "(app (lam x (app (app x x) x)) " + leftApps(n) + ")", "(app (fun (hap (hap (ax n)))) " + strings.Repeat("(hap ", n) + "(ax n)" + strings.Repeat(")", n) + ")"
}

// A step whose result is no term, since it has more than TermMax atoms.
func TestMoveNoTerm(t *testing.T) {
	s, d := tooLong(65) // 2 + 3 * 131 atoms behind the step
	checkMove(t, "head", movesCase{"head", s, d, "(hap (hap " + strings.Repeat("(hap ", 65) + "(ax n)" + strings.Repeat(")", 67), 1})
	s, d = tooLong(66) // 401 atoms
	if j, ok := impl.Derive("head", s, d); !ok || j.Size != 68 {
		t.Errorf("Derive returned %q, %v", shown(j), ok)
	}
	checkNoMove(t, "head", s, d)
	checkNoBack(t, "head", s, "(hap (hap "+strings.Repeat("(hap ", 66)+"(ax n)"+strings.Repeat(")", 68))
	// StepMany does no step then, and DeriveMany as many.
	for _, n := range []int{0, 1, impl.StepsMax} {
		if got, ok := impl.DeriveMany("head", s, d, n); !ok || got != d {
			t.Errorf("DeriveMany of a step to no term returned %.80q, %v", got, ok)
		}
	}
	// No node stands for the redex.
	growingOnce := "(app y (app (lam x (app (app x x) x)) " + leftApps(66) + "))"
	checkNoMove(t, "full", growingOnce, "(app (ax (> (m) a)))")
	checkNoBack(t, "full", growingOnce, "(app (ax (> (m) a)))")
	if got, ok := impl.DeriveMany("full", growingOnce, "(app (ax (> (m) a)))", 3); !ok || got != "(app (ax (> (m) a)))" {
		t.Errorf("DeriveMany of a step to no term returned %q, %v", got, ok)
	}
}

// threeApps is a term and a derivation for it of both kinds, of so many nodes: from 572 to 604.
func threeApps(nodes int) (string, string) {
	const funs = 12
	lams := funs + nodes%2
	left := (nodes - lams - 4 - 3*4) / 2
	s, d := "w", "(ax (> (m n n) (> (m n n) (> (m n n) n))))"
	for i := range 3 {
		n := left / (3 - i)
		left -= n
		one := "(app (ax (> (m" + strings.Repeat(" n", n) + ") n))" + strings.Repeat(" (ax n)", n) + ")"
		s = "(app " + s + " (app x" + decimal(i) + " y" + decimal(i) + "))"
		d = "(app " + d + " " + one + " " + one + ")"
	}
	return strings.Repeat("(lam v ", lams) + s + strings.Repeat(")", lams), strings.Repeat("(fun ", lams) + d + strings.Repeat(")", lams)
}

// Of a step back, the derivation has more nodes: app and fun, and an ax for each use of the name.
func TestBackNodesMax(t *testing.T) {
	const most = impl.NodesMax
	for _, kind := range kinds() {
		for nodes := most - 5; nodes <= most; nodes++ {
			s, d := threeApps(nodes)
			j, ok := impl.Derive(kind, s, d)
			if checkNodes(t, kind, d, nodes); !ok || j.Steps != 9 {
				t.Fatalf("a derivation of %d nodes derives %q, %v", nodes, shown(j), ok)
			}
			checkBackNodes(t, kind, "(app (lam v "+s+") z)", "(app (fun "+d+"))", d, nodes+2)
			checkBackNodes(t, kind, "(app (lam v v) "+s+")", "(app (fun (ax "+j.Type+")) "+d+")", d, nodes+3)
		}
	}
}

// checkBackNodes expects a step back, if so many nodes are not too many.
func checkBackNodes(t *testing.T, kind, s, d, next string, nodes int) {
	t.Helper()
	if nodes > impl.NodesMax {
		checkNoBack(t, kind, s, next)
		return
	}
	checkNodes(t, kind, d, nodes)
	checkMove(t, kind, movesCase{kind, s, d, next, 1})
}

// The name is used by many nodes, each of which becomes two.
func TestBackNodesMaxUses(t *testing.T) {
	const s = "(app (lam x (app (app (app u (app v0 y0)) (app v1 y1)) (app v2 x))) z)"
	part := func(n int) string {
		return "(app (ax (> (m" + strings.Repeat(" n", n) + ") n))" + strings.Repeat(" (ax n)", n) + ")"
	}
	for nodes := impl.NodesMax - 3; nodes <= impl.NodesMax+3; nodes++ {
		const uses, others = 150, 140
		next := "(tap (tap (tap (ax n) " + part(others) + ") " + part(nodes-12-2*uses-others) + ") " + part(uses) + ")"
		d := "(app (fun " + next + ")" + strings.Repeat(" (ax n)", uses) + ")"
		checkBackNodes(t, "full", s, d, next, nodes)
	}
}

// The redex stands for many nodes, each of which becomes four.
func TestBackNodesMaxRedexes(t *testing.T) {
	for lams := 0; lams <= 4; lams++ {
		for n := 148; n <= 150; n++ {
			s := strings.Repeat("(lam v ", lams) + "(app y (app (lam x x) z))" + strings.Repeat(")", lams)
			around := strings.Repeat("(fun ", lams) + "(app (ax (> (m" + strings.Repeat(" a", n) + ") b))"
			d := around + strings.Repeat(" (app (fun (ax a)) (ax a))", n) + strings.Repeat(")", lams+1)
			next := around + strings.Repeat(" (ax a)", n) + strings.Repeat(")", lams+1)
			if nodes := lams + 2 + 4*n; nodes > impl.NodesMax {
				checkNoBack(t, "full", s, next)
			} else {
				checkNodes(t, "full", d, nodes)
				checkMove(t, "full", movesCase{"full", s, d, next, n})
			}
		}
	}
}

// The result of a step back can have more than TypeMax atoms in a type or a bag, where what is behind the step has none such.
func TestBackTypeMax(t *testing.T) {
	const most = impl.TypeMax
	for _, kind := range kinds() {
		// The type of the fun has all types of its name and its own.
		for n := 1; n <= most; n++ {
			s := "(app (lam x (app y x)) z)"
			next := "(app (ax (> (m" + strings.Repeat(" n", n) + ") n))" + strings.Repeat(" (ax n)", n) + ")"
			d := "(app (fun " + next + ")" + strings.Repeat(" (ax n)", n) + ")"
			if _, ok := impl.Derive(kind, "(app y z)", next); ok != (n <= most-4) {
				t.Errorf("Derive %s of a bag of %d types: %v", kind, n, ok)
			}
			checkBackTypes(t, kind, movesCase{kind, s, d, next, 1}, n <= most-4)
		}
		for n := 90; n <= 200; n++ {
			s, next := "(app (lam x x) z)", "(ax "+typeWith(n)+")"
			checkBackTypes(t, kind, movesCase{kind, s, "(app (fun " + next + ") " + next + ")", next, 1}, 2*n+2 <= most)
			s = "(app (lam x y) z)"
			checkBackTypes(t, kind, movesCase{kind, s, "(app (fun " + next + "))", next, 1}, n+2 <= most)
			s = "(app w (app (lam x x) z))"
			next = "(app (ax (> (m) a)))"
			checkBackTypes(t, "full", movesCase{"full", s, next, next, 0}, true)
		}
	}
}

// checkBackTypes expects a step back, if it is told that the result derives something for the term.
func checkBackTypes(t *testing.T, kind string, c movesCase, ok bool) {
	t.Helper()
	if ok {
		checkMove(t, kind, c)
		return
	}
	if _, okDerive := impl.Derive(kind, c.s, c.d); okDerive {
		t.Errorf("Derive %s for %q of %.80q succeeds", kind, c.s, c.d)
	}
	checkNoBack(t, kind, c.s, c.next)
}

// What is put has no free names: behind the step, no bag has the types of its derivations.
func TestBackBagMax(t *testing.T) {
	const s = "(app (lam x (app (app u (app v x)) (app w x))) (lam y y))"
	part := func(n int, of string) string {
		return "(app (ax (> (m" + strings.Repeat(" (> (m a) a)", n) + ") n))" + strings.Repeat(" "+of, n) + ")"
	}
	const ofX, put = "(ax (> (m a) a))", "(fun (ax a))"
	for _, kind := range kinds() {
		for n := 1; n <= 49; n++ {
			next := "(app (app (ax (> (m n) (> (m n) n))) " + part(n, put) + ") " + part(25, put) + ")"
			d := "(app (fun (app (app (ax (> (m n) (> (m n) n))) " + part(n, ofX) + ") " + part(25, ofX) + "))" + strings.Repeat(" "+put, n+25) + ")"
			behind, _ := impl.StepOf(kind, s)
			if _, ok := impl.Derive(kind, behind, next); !ok {
				t.Errorf("Derive %s of %d uses behind the step fails", kind, n+25)
			}
			checkBackTypes(t, kind, movesCase{kind, s, d, next, 1}, 4*(n+25)+3 <= impl.TypeMax)
		}
	}
}

// withLength is a term and a derivation for it of both kinds that has so many bytes, from 7900 to 8000.
func withLength(t *testing.T, bytes int) (string, string) {
	t.Helper()
	for last := 3; last <= 190; last++ {
		for choice := range 4 {
			s, d := longPairs(5, last, choice%2, choice/2)
			if len(d) == bytes {
				return s, d
			}
		}
	}
	t.Fatalf("no derivation of %d bytes", bytes)
	return "", ""
}

// longPairs has pairs of long types, one with a type of so many atoms, and some more letters and lams.
func longPairs(pairs, last, letters, lams int) (string, string) {
	s, from, args := "w", "(> (m a) b)", " (ax a))"
	if letters == 0 {
		from, args = "(> (m) b)", ")"
	}
	d := ""
	for i := range pairs + 1 {
		long := deepRight(94)
		if i == pairs {
			long = typeWith(last)
		}
		from = "(> (m n) " + from + ")"
		s = "(app " + s + " (app x" + decimal(i) + " y" + decimal(i) + "))"
		d += " (app (ax (> (m " + long + ") n)) (ax " + long + ")))"
	}
	d = strings.Repeat("(app ", pairs+2) + "(ax " + from + ")" + d + args
	return strings.Repeat("(lam v ", lams) + "(app " + s + " z)" + strings.Repeat(")", lams), strings.Repeat("(fun ", lams) + d + strings.Repeat(")", lams)
}

// A derivation has at most TextMax bytes.
func TestBackTextMax(t *testing.T) {
	const most = impl.TextMax
	const more = len("(app (fun ))")
	for _, kind := range kinds() {
		for bytes := most - more - 4; bytes <= most; bytes++ {
			s, next := withLength(t, bytes)
			if _, ok := impl.Derive(kind, s, next); !ok {
				t.Fatalf("Derive %s of %d bytes fails", kind, bytes)
			}
			s, d := "(app (lam v "+s+") z)", "(app (fun "+next+"))"
			if bytes > most-more {
				checkNoBack(t, kind, s, next)
				continue
			}
			checkMove(t, kind, movesCase{kind, s, d, next, 1})
		}
	}
}

// deepTerm is a term within so many lams, and a derivation of the type l for it, with 2 + 2n + 2 more parentheses within each other.
func deepTerm(lams int, n int) (string, string) {
	long := deepLeft(n)
	s := strings.Repeat("(lam v ", lams) + "(app w z)" + strings.Repeat(")", lams)
	return s, strings.Repeat("(tfun ", lams) + "(app (ax (> (m " + long + ") n)) (ax " + long + "))" + strings.Repeat(")", lams)
}

// A derivation has at most 300 parentheses within each other. Behind a step they can be more:
// what was beside each other is then within.
func TestMoveNestMax(t *testing.T) {
	const within, n = 66, 53
	for _, kind := range kinds() {
		for lams := 120; lams <= 128; lams++ {
			put, putD := deepTerm(lams, n)
			s := "(app (lam x " + strings.Repeat("(lam y ", within) + "x" + strings.Repeat(")", within+1) + " " + put + ")"
			d := "(app (fun " + strings.Repeat("(tfun ", within) + "(ax l)" + strings.Repeat(")", within+1) + " " + putD + ")"
			next := strings.Repeat("(tfun ", within) + putD + strings.Repeat(")", within)
			if j, ok := impl.Derive(kind, s, d); !ok || j.Type != "l" || nest(next) != lams+176 {
				t.Fatalf("Derive %s of a deep derivation returned %.80q, %v", kind, shown(j), ok)
			}
			if lams+176 <= 300 {
				checkMove(t, kind, movesCase{kind, s, d, next, 1})
				continue
			}
			checkNoMove(t, kind, s, d)
			checkNoBack(t, kind, s, next)
			checkNoMany(t, kind, s, d, 1)
			checkNoMany(t, kind, s, d, impl.StepsMax)
			checkMany(t, kind, s, d, 0, d)
		}
	}
}

// DeriveMany fails where a derivation on the way is too deep, though that behind the last step would not be.
func TestManyNestMaxOnTheWay(t *testing.T) {
	const within, n = 66, 53
	for _, kind := range kinds() {
		for lams := 118; lams <= 124; lams++ {
			put, putD := deepTerm(lams, n)
			s := "(app (app (lam x (lam u " + strings.Repeat("(lam y ", within) + "x" + strings.Repeat(")", within+2) + " " + put + ") w)"
			d := "(app (app (fun (fun " + strings.Repeat("(tfun ", within) + "(ax l)" + strings.Repeat(")", within+2) + " " + putD + "))"
			last := strings.Repeat("(tfun ", within) + putD + strings.Repeat(")", within)
			checkMany(t, kind, s, d, 0, d)
			if !impl.DerivationValid(kind, last) {
				t.Fatalf("the last derivation has %d parentheses within each other", nest(last))
			}
			if nest(last)+2 <= 300 {
				checkMany(t, kind, s, d, 1, "(app (fun "+last+"))")
				checkMany(t, kind, s, d, 2, last)
				continue
			}
			checkNoMany(t, kind, s, d, 1)
			checkNoMany(t, kind, s, d, 2)
			checkNoMany(t, kind, s, d, impl.StepsMax)
		}
	}
}

func TestBackNestMax(t *testing.T) {
	const n = 53
	for _, kind := range kinds() {
		for lams := 184; lams <= 190; lams++ {
			s, next := deepTerm(lams, n)
			before, d := "(app (lam u "+s+") x)", "(app (fun "+next+"))"
			if _, ok := impl.Derive(kind, s, next); !ok || nest(next) != lams+110 {
				t.Errorf("Derive %s of %d parentheses within each other: %v", kind, nest(next), ok)
			}
			if lams+110+2 > 300 {
				checkNoBack(t, kind, before, next)
				continue
			}
			checkMove(t, kind, movesCase{kind, before, d, next, 1})
		}
	}
}

func checkMany(t *testing.T, kind, s, d string, n int, want string) {
	t.Helper()
	if got, ok := impl.DeriveMany(kind, s, d, n); !ok || got != want {
		t.Errorf("DeriveMany %s for %.80q of %.80q and %d returned %.120q, %v", kind, s, d, n, got, ok)
	}
}

func TestDeriveMany(t *testing.T) {
	const s = "(app (app (lam f (lam x (app f (app f x)))) (lam y (app z y))) w)"
	const zyA = "(fun (app (ax (> (m a) a)) (ax a)))"
	steps := []string{
		"(app (app (fun (fun (app (ax (> (m a) a)) (app (ax (> (m a) a)) (ax a))))) " + zyA + " " + zyA + ") (ax a))",
		"(app (fun (app " + zyA + " (app " + zyA + " (ax a)))) (ax a))",
		"(app " + zyA + " (app " + zyA + " (ax a)))",
		"(app (ax (> (m a) a)) (app " + zyA + " (ax a)))",
		"(app (ax (> (m a) a)) (app (ax (> (m a) a)) (ax a)))",
	}
	for _, c := range []struct {
		kind  string
		steps int // as many as there are
	}{{"head", 3}, {"full", 4}} {
		for from := 0; from <= c.steps; from++ {
			term, _, _ := impl.StepMany(c.kind, s, from)
			for _, n := range []int{0, 1, 2, 3, 4, 5, 100, impl.StepsMax - 1, impl.StepsMax} {
				checkMany(t, c.kind, term, steps[from], n, steps[min(from+n, c.steps)])
			}
			for _, n := range []int{impl.StepsMax + 1, impl.StepsMax + 2, 1000, 1<<63 - 1, -1, -2, -impl.StepsMax, -1 << 63} {
				checkNoMany(t, c.kind, term, steps[from], n)
			}
		}
	}
}

// With 0 the text stays as it stands, whatever the derivation is, and for a term that is not canonical.
func TestDeriveManyNone(t *testing.T) {
	for i, c := range derivings() {
		if i%7 == 0 {
			checkMany(t, c.kind, c.tree.text(), c.proof.text(), 0, c.proof.text())
		}
	}
	s, d := threeApps(impl.NodesMax)
	checkMany(t, "head", s, d, 0, d)
	s, d = withLength(t, impl.TextMax)
	checkMany(t, "full", s, d, 0, d)
	s, d = deepTerm(190, 53)
	checkMany(t, "full", s, d, 0, d)
}

// A redex that comes to itself is done again and again, where no node stands for it.
func TestDeriveManyEndless(t *testing.T) {
	for _, around := range []string{"(app y " + endless + ")", "(app y (lam z (app z " + endless + ")))"} {
		d := "(app (ax (> (m) a)))"
		for _, n := range []int{0, 1, 2, impl.StepsMax} {
			checkMany(t, "full", around, d, n, d)
		}
		checkNoMany(t, "full", around, d, impl.StepsMax+1)
		if n, ok := impl.DeriveMoved("full", around, d); !ok || n != 0 {
			t.Errorf("DeriveMoved of a redex without nodes returned %d, %v", n, ok)
		}
	}
}

// backFrom goes back from a derivation for the normal term of a term to one for the term itself.
func backFrom(t *testing.T, kind, s, d string) string {
	t.Helper()
	_, steps, ok := impl.NormalOf(kind, s)
	for i := steps - 1; i >= 0; i-- {
		term, _, _ := impl.StepMany(kind, s, i)
		if d, ok = impl.DeriveBack(kind, term, d); !ok {
			t.Fatalf("DeriveBack %s for %q fails", kind, term)
		}
	}
	if !ok {
		t.Fatalf("%q comes to no normal term", s)
	}
	return d
}

// A derivation goes back all steps, and by as many steps to where it came from. A tight one has as many steps as there are.
func TestDeriveManyBack(t *testing.T) {
	for _, c := range []struct{ kind, s, d string }{
		{"both", "(app (app " + two + " " + same + ") y)", "(ax n)"},
		{"both", "(app (app (app " + two + " " + three + ") " + same + ") y)", "(ax n)"},
		{"both", "(app (app (app " + three + " " + two + ") " + same + ") y)", "(ax l)"},
		{"both", strings.Repeat("(app "+same+" ", 60) + "y" + strings.Repeat(")", 60), "(ax n)"},
		{"head", "(app (app (app " + two + " " + three + ") y) z)", "(hap (ax n))"},
	} {
		for _, kind := range kinds() {
			if c.kind != "both" && c.kind != kind {
				continue
			}
			normal, n, _ := impl.NormalOf(kind, c.s)
			d := backFrom(t, kind, c.s, c.d)
			if j, ok := impl.Derive(kind, c.s, d); !ok || j.Steps != n || !impl.DeriveTight(kind, c.s, d) {
				t.Errorf("the derivation of %q for %q, %d steps back, derives %q, %v", normal, c.s, n, shown(j), ok)
			}
			checkMany(t, kind, c.s, d, n, c.d)
			checkMany(t, kind, c.s, d, impl.StepsMax, c.d)
			for _, half := range []int{0, 1, n / 2, n - 1} {
				term, _, _ := impl.StepMany(kind, c.s, half)
				on, ok := impl.DeriveMany(kind, c.s, d, half)
				if !ok || judgementOf(kind, term, on).Steps != n-half {
					t.Errorf("DeriveMany %s for %q and %d: %v", kind, c.s, half, ok)
				}
				checkMany(t, kind, term, on, n-half, c.d)
			}
		}
	}
}

// All StepsMax steps, some with nodes for the redex and more of them without.
func TestDeriveManyStepsMax(t *testing.T) {
	const inner = 80
	s := "(app (app y " + strings.Repeat("(app "+same+" ", inner) + "z" + strings.Repeat(")", inner) + ") " + endless + ")"
	first, last := "(app (app (ax (> (m a) (> (m) b))) ", "))"
	d := func(n int) string {
		return first + strings.Repeat("(app (fun (ax a)) ", n) + "(ax a)" + strings.Repeat(")", n) + last
	}
	for _, n := range []int{0, 1, inner - 1, inner, inner + 1, impl.StepsMax - 1, impl.StepsMax} {
		checkMany(t, "full", s, d(inner), n, d(max(0, inner-n)))
	}
	checkNoMany(t, "full", s, d(inner), impl.StepsMax+1)
}

// A step back that goes on until there are too many nodes, or a type is too large.
func TestBackUntilMax(t *testing.T) {
	t.Parallel()
	for _, kind := range kinds() {
		for s, left := range map[string]int{
			waits(185): 33, "(app (app (app (app " + two + " " + two + ") " + two + ") " + same + ") y)": 2,
		} {
			normal, i, _ := impl.NormalOf(kind, s)
			d := "(ax n)"
			for ok := true; ok; i-- {
				term, _, _ := impl.StepMany(kind, s, i-1)
				before, okBack := impl.DeriveBack(kind, term, d)
				if ok = okBack; !ok {
					checkNoBack(t, kind, term, d)
					break
				}
				checkMove(t, kind, movesCase{kind, term, before, d, 1})
				d = before
			}
			if i != left {
				t.Errorf("DeriveBack %s from %q to %q fails with %d steps left", kind, normal, s, i)
			}
		}
	}
}

// How many steps a step takes away: one for each node that stands for the redex.
func TestDeriveMoved(t *testing.T) {
	for _, c := range []struct {
		kind, s, d string
		want       int
	}{
		// Tight ones.
		{"both", "(app (lam x x) y)", "(app (fun (ax n)) (ax n))", 1},
		{"full", "(app x (app (lam y (app y y)) z))", "(tap (ax n) (app (fun (tap (ax n) (ax n))) (ax n) (ax n)))", 1},
		{"full", "(lam x (app x (lam z (app (lam y x) " + endless + "))))", "(tfun (tap (ax n) (tfun (app (fun (ax n))))))", 1},
		// Those of the kind head.
		{"head", "(app (app (lam x (app x x)) y) z)", "(app (app (fun (app (ax (> (m a a) (> (m) b))) (ax a) (ax a))) (ax (> (m a a) (> (m) b))) (ax a) (ax a)))", 1},
		{"head", "(lam z (app (lam x y) (app (lam x x) z)))", "(fun (app (fun (ax (> (m) c)))))", 1},
		{"head", "(app (lam x (app w x)) z)", "(app (fun (app (ax (> (m a a b) c)) (ax a) (ax a) (ax b))) (ax a) (ax a) (ax b))", 1},
		// The redex stands for no node, for one and for several.
		{"full", "(app y (app (lam x x) z))", "(app (ax (> (m) n)))", 0},
		{"full", "(app y (app (lam x x) z))", "(app (ax (> (m a) n)) (app (fun (ax a)) (ax a)))", 1},
		{"full", "(app y (app (lam x x) z))", "(app (ax (> (m a a a) n)) (app (fun (ax a)) (ax a)) (app (fun (ax a)) (ax a)) (app (fun (ax a)) (ax a)))", 3},
		{"full", "(app y (app y (app (lam x w) z)))", "(app (ax (> (m a b b) n)) (app (ax (> (m) a))) (app (ax (> (m c) b)) (app (fun (ax c)))) (app (ax (> (m c c) b)) (app (fun (ax c))) (app (fun (ax c)))))", 3},
		// The term is normal for the kind, or nothing is derived.
		{"both", "(lam x x)", "(fun (ax a))", -1},
		{"head", "(app y (app (lam x x) z))", "(app (ax (> (m) n)))", -1},
		{"both", "(app (lam x x) y)", "(ax n)", -1},
	} {
		for _, kind := range kinds() {
			if c.kind != "both" && c.kind != kind {
				continue
			}
			n, ok := impl.DeriveMoved(kind, c.s, c.d)
			if ok != (c.want >= 0) || n != max(0, c.want) {
				t.Errorf("DeriveMoved %s for %q of %q returned %d, %v", kind, c.s, c.d, n, ok)
			}
		}
	}
}

// shareMemory tells whether two strings have a byte in common.
func shareMemory(a, b string) bool {
	startA, startB := uintptr(unsafe.Pointer(unsafe.StringData(a))), uintptr(unsafe.Pointer(unsafe.StringData(b)))
	return startA < startB+uintptr(len(b)) && startB < startA+uintptr(len(a))
}

// Results are new memory, also where they are equal to arguments or to each other.
func TestMoveResults(t *testing.T) {
	s, d := strings.Clone("(app y (app (lam x x) z))"), strings.Clone("(app (ax (> (m) n)))")
	var results []string
	for n := range 3 {
		many, _ := impl.DeriveMany("full", s, d, n)
		results = append(results, many)
	}
	next, _ := impl.DeriveStep("full", s, d)
	before, _ := impl.DeriveBack("full", s, d)
	results = append(results, next, before)
	for i, result := range results {
		if result != d {
			t.Fatalf("result %d is %q", i, result)
		}
		if shareMemory(result, d) || shareMemory(result, s) {
			t.Errorf("result %d shares memory with an argument", i)
		}
		for k, other := range results[:i] {
			if shareMemory(result, other) {
				t.Errorf("results %d and %d share memory", i, k)
			}
		}
	}
}
