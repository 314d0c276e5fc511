package tests

import (
	"slices"
	"strings"
	"testing"

	"loop.example/intersectiontypes/impl"
)

// noDerivations are texts that are derivations of no kind.
func noDerivations() []string {
	list := []string{
		"", " ", "\n", "\x00", "\xff", "é", "()", "(", ")", "a", "n", "x", "ax", "fun", "app", "ax a", "(a)", "(n)", "(ax)", "(fun)", "(tfun)", "(app)", "(hap)", "(tap)",
		"(ax a b)", "(ax a a)", "(ax a (ax a))", "(ax (ax a))", "(ax (fun (ax a)))", "(ax ())", "(ax (a))", "(ax x1)", "(ax aa)", "(ax ab)", "(ax 1)", "(ax A)", "(ax >)", "(ax ax)", "(ax om)",
		"(ax (m))", "(ax (m a))", "(ax (m n))", "(ax (m (> (m) a)))", "(ax (>))", "(ax (> a b))", "(ax (> (m) (m)))", "(ax (> (m b a) a))", "(ax (> (m a (> (m) a)) a))", "(ax > (m) a)",
		"(ax (lam x x))", "(Ax a)", "(aX a)", "(axx a)", "(a x)", "(xa a)", "(x a)", "((ax) a)", "((ax a))", "((ax a) (ax a))", "(a ax)", "(ax1 a)",
		"(fun a)", "(fun x)", "(fun n)", "(fun (a))", "(fun fun)", "(fun (fun))", "(fun ax a)", "(fun (ax a) (ax a))", "(fun x (ax a))", "(fun (ax a) x)", "(fun (ax (m a)))", "(Fun (ax a))", "(funn (ax a))", "(fu (ax a))", "(lam (ax a))", "(lam x (ax a))",
		"(tfun a)", "(tfun (ax n) (ax n))", "(tfun x (ax n))", "(tfun (tfun))", "(ttfun (ax n))", "(hfun (ax n))",
		"(app a)", "(app a (ax a))", "(app (ax a) a)", "(app (ax a) (ax a) a)", "(app (ax a) a (ax a))", "(app (ax a) ())", "(app (ax a) (m a))", "(app (ax a) ((ax a)))", "(app (ax a) ((ax a) (ax a)))", "(app x y)", "(app app (ax a))", "(appp (ax a))", "(ap (ax a))",
		"(hap n)", "(hap (ax n) (ax n))", "(hap (hap))", "(hap ())", "(happ (ax n))", "(tap n n)", "(tap (ax n))", "(tap (ax n) n)", "(tap n (ax n))", "(tap (ax n) (ax n) (ax n))", "(tap (tap) (ax n))", "(tapp (ax n) (ax n))", "(fap (ax n))",
		"(> (m) a)", "(m (ax a))", "(> (ax a) (ax a))", "(lam x x)", "(om (ax a))", "(fun (hap (tap (ax n) (ax n))))", "(tap (hap (ax n)) (ax n))", "(tap (ax n) (hap (ax n)))", "(app (hap (ax n)) (tap (ax n) (ax n)))",
		"(ax  a)", "( ax a)", "(ax a )", " (ax a)", "(ax a) ", "(ax\ta)", "(ax a\n)", "(ax a", "ax a)", "(ax a))", "((ax a)", "(ax a)(ax a)", "(ax a) (ax a)", "(ax a)x", "(ax(> (m) a))",
		"(fun  (ax a))", "( fun (ax a))", "(fun (ax a) )", "(fun(ax a))", "(fun (ax a)", "fun (ax a))", "(app (ax a)(ax a))", "(app (ax a)  (ax a))", "(app (ax a) (ax a)", "(app (ax a) (ax a)))",
	}
	return append(list, noDerivationsForSize()...)
}

// noDerivationsForSize would be derivations without the limits.
func noDerivationsForSize() []string {
	return []string{
		wide(impl.NodesMax + 1), wide(900), "(fun " + wide(impl.NodesMax) + ")", deepFuns(300), deepFuns(301), deepFuns(3000),
		strings.Repeat("(fun ", 300) + "(ax a)" + strings.Repeat(")", 300), withBytes(impl.TextMax + 1), withBytes(impl.TextMax + 2), withBytes(100 * impl.TextMax),
		"(ax " + typeWith(impl.TypeMax+1) + ")", "(fun (ax " + typeWith(impl.TypeMax+1) + "))", "(app (ax a) (ax " + deepRight(100) + "))",
		strings.Repeat("(", impl.TextMax), strings.Repeat("(fun ", 100*impl.TextMax), strings.Repeat("(app ", impl.TextMax/5), strings.Repeat("(ax a) ", impl.TextMax),
	}
}

// wide is a derivation of so many nodes.
func wide(nodes int) string {
	return "(app" + strings.Repeat(" (ax a)", nodes-1) + ")"
}

// deepFuns is a derivation with n+1 nodes, and as many parentheses within each other.
func deepFuns(n int) string {
	return strings.Repeat("(fun ", n) + "(ax a)" + strings.Repeat(")", n)
}

// withBytes is a derivation with so many bytes, if there are at least 1000 and the limits allow it.
func withBytes(n int) string {
	const long = impl.TypeMax
	parts := []string{"(app"}
	left := n - len("(app)")
	for left > 600 {
		parts = append(parts, "(ax "+typeWith(long)+")")
		left -= len(" (ax ") + len(typeWith(long)) + len(")")
	}
	if left%2 == 1 {
		return strings.Join(parts, " ") + longAx(left) + ")"
	}
	return strings.Join(parts, " ") + " (ax a)" + longAx(left-len(" (ax a)")) + ")"
}

// longAx is an ax of an odd number of bytes, with the space ahead of it.
func longAx(n int) string {
	const least = len(" (ax (> (m) b))")
	if n > least+2*(impl.TypeMax-3) {
		return " (ax a)" + " (ax a)" + longAx(n-2*len(" (ax a)"))
	}
	return " (ax " + typeWith(3+(n-least)/2) + ")"
}

func TestDerivationValid(t *testing.T) {
	for _, c := range []struct {
		s          string
		head, full int // the nodes; -1 if it is no derivation of the kind
	}{
		{"(ax a)", 1, 1},
		{"(ax n)", 1, 1},
		{"(ax m)", 1, 1},
		{"(ax (> (m) a))", 1, 1},
		{"(ax (> (m (> (m) a) a a) (> (m l n) z)))", 1, 1},
		{"(fun (ax a))", 2, 2},
		{"(tfun (ax a))", 2, 2},
		{"(fun (tfun (fun (ax a))))", 4, 4},
		{"(app (ax a))", 2, 2},
		{"(app (ax a) (ax b))", 3, 3},
		{"(app (ax a) (ax b) (ax b))", 4, 4},
		{"(app (ax a) (fun (ax b)) (app (ax c)) (ax c) (ax a))", 8, 8},
		{"(app (app (app (ax a))))", 4, 4},
		{"(app (fun (ax n)) (ax n))", 4, 4},
		{"(hap (ax n))", 2, -1},
		{"(hap (hap (fun (ax a))))", 4, -1},
		{"(fun (hap (ax n)))", 3, -1},
		{"(app (ax a) (ax a) (hap (ax n)))", 5, -1},
		{"(app (hap (ax n)) (ax a))", 4, -1},
		{"(tap (ax n) (ax n))", -1, 3},
		{"(tap (ax a) (tap (ax n) (ax l)))", -1, 5},
		{"(tap (tap (ax n) (ax n)) (ax n))", -1, 5},
		{"(tfun (tap (ax n) (ax n)))", -1, 4},
		{"(app (ax a) (tap (ax n) (ax n)))", -1, 5},
		{"(app (tap (ax n) (ax n)))", -1, 4},
	} {
		checkNodes(t, "head", c.s, c.head)
		checkNodes(t, "full", c.s, c.full)
	}
}

func checkNodes(t *testing.T, kind string, s string, want int) {
	t.Helper()
	if n := impl.DerivationNodes(kind, s); n != want || impl.DerivationValid(kind, s) != (want != -1) {
		t.Errorf("%s %.60q: DerivationNodes %d, DerivationValid %v", kind, s, n, impl.DerivationValid(kind, s))
	}
}

func TestDerivationMax(t *testing.T) {
	const most = impl.NodesMax
	for _, kind := range kinds() {
		checkNodes(t, kind, wide(most-1), most-1)
		checkNodes(t, kind, wide(most), most)
		checkNodes(t, kind, wide(most+1), -1)
		checkNodes(t, kind, "(fun "+wide(most-1)+")", most)
		checkNodes(t, kind, "(fun "+wide(most)+")", -1)
		checkNodes(t, kind, "(app "+wide(300)+" "+wide(299)+")", most)
		checkNodes(t, kind, "(app "+wide(300)+" "+wide(300)+")", -1)
		checkNodes(t, kind, deepFuns(299), 300)
		checkNodes(t, kind, deepFuns(300), -1)
		checkNodes(t, kind, "(app "+deepFuns(298)+" "+deepFuns(298)+")", 599)
		checkNodes(t, kind, "(app "+deepFuns(298)+" "+deepFuns(299)+")", -1)
		for _, n := range []int{impl.TextMax - 2, impl.TextMax - 1, impl.TextMax, impl.TextMax + 1, impl.TextMax + 2} {
			if s := withBytes(n); len(s) != n || impl.DerivationValid(kind, s) != (n <= impl.TextMax) {
				t.Errorf("DerivationValid of %d bytes is %v", len(s), impl.DerivationValid(kind, s))
			}
		}
		checkNodes(t, kind, "(ax "+typeWith(impl.TypeMax)+")", 1)
		checkNodes(t, kind, "(ax "+typeWith(impl.TypeMax+1)+")", -1)
		checkNodes(t, kind, "(fun (ax "+deepRight(99)+"))", 2)
		checkNodes(t, kind, "(fun (ax "+deepRight(100)+"))", -1)
	}
	checkNodes(t, "head", strings.Repeat("(hap ", 299)+"(ax n)"+strings.Repeat(")", 299), 300)
	checkNodes(t, "full", strings.Repeat("(tap (ax n) ", 299)+"(ax n)"+strings.Repeat(")", 299), 599)
}

// The text of an ax is a type of chapter 3: no bag, and nothing else.
func TestDerivationAx(t *testing.T) {
	for _, kind := range kinds() {
		for _, s := range append(noTypes(), "(m)", "(m a)", "(m n)", "(m l n)", bagWith(impl.TypeMax)) {
			checkNoDerivation(t, kind, "(ax "+s+")", "x")
			checkNoDerivation(t, kind, "(fun (ax "+s+"))", "(lam x x)")
		}
		for _, s := range append(inOrder(), typeWith(impl.TypeMax-1)) {
			checkNodes(t, kind, "(ax "+s+")", 1)
			if got, ok := impl.DeriveTypes(kind, "(ax "+s+")"); !ok || !slices.Equal(got, []string{s}) {
				t.Errorf("DeriveTypes of an ax of %.60q returned %q, %v", s, got, ok)
			}
		}
	}
}

func TestDeriveTypes(t *testing.T) {
	for _, c := range []struct {
		kind, s string
		want    []string
	}{
		{"head", "(ax a)", []string{"a"}},
		{"full", "(fun (fun (ax b)))", []string{"b"}},
		{"full", "(app (ax c) (ax a) (ax b) (ax a))", []string{"c", "a", "b", "a"}},
		{"head", "(app (app (ax b) (ax a)) (fun (ax c)))", []string{"b", "a", "c"}},
		{"full", "(app (fun (ax (> (m) a))) (app (ax z) (ax y)) (ax (> (m a) b)))", []string{"(> (m) a)", "z", "y", "(> (m a) b)"}},
		{"head", "(hap (tfun (ax l)))", []string{"l"}},
		{"full", "(tap (tap (ax c) (ax b)) (tfun (ax a)))", []string{"c", "b", "a"}},
	} {
		if got, ok := impl.DeriveTypes(c.kind, c.s); !ok || !slices.Equal(got, c.want) {
			t.Errorf("DeriveTypes %s of %q returned %q, %v", c.kind, c.s, got, ok)
		}
	}
}

func TestDerivePlain(t *testing.T) {
	for s, want := range map[string]bool{
		"(ax a)": true, "(ax n)": true, "(fun (ax a))": true, "(app (ax a))": true, "(app (ax a) (ax b) (fun (ax c)))": true, "(app (fun (app (ax a) (ax b))))": true,
		"(tfun (ax n))": false, "(hap (ax n))": false, "(tap (ax n) (ax n))": false,
		"(fun (tfun (ax n)))": false, "(fun (hap (ax n)))": false, "(fun (tap (ax n) (ax n)))": false,
		"(app (tfun (ax a)))": false, "(app (hap (ax a)))": false, "(app (tap (ax a) (ax a)))": false,
		"(app (ax a) (ax a) (tfun (ax a)))": false, "(app (ax a) (ax a) (hap (ax a)))": false, "(app (ax a) (ax a) (tap (ax a) (ax a)))": false,
		"(tfun (fun (ax n)))": false, "(tap (fun (ax a)) (app (ax a)))": false,
		wide(impl.NodesMax): true, wide(impl.NodesMax + 1): false, deepFuns(299): true, deepFuns(300): false,
	} {
		if impl.DerivePlain(s) != want {
			t.Errorf("DerivePlain of %.60q is %v", s, !want)
		}
	}
}

// shown is a judgement in one line: names with their bags, the type, the steps and the size.
func shown(j impl.Judgement) string {
	line := ""
	for i, name := range j.Names {
		line += name + " " + j.Bags[i] + ", "
	}
	return line + j.Type + ", " + decimal(j.Steps) + ", " + decimal(j.Size)
}

// derivesCase is a derivation for a term, and the judgement as it is shown; none if it derives nothing.
type derivesCase struct{ kind, s, d, want string }

func checkDerives(t *testing.T, list []derivesCase) {
	t.Helper()
	for _, c := range list {
		of := []string{c.kind}
		if c.kind == "both" {
			of = kinds()
		}
		for _, kind := range of {
			if c.want == "" {
				checkDerivesNothing(t, kind, c.s, c.d)
				continue
			}
			j, ok := impl.Derive(kind, c.s, c.d)
			if !ok || len(j.Names) != len(j.Bags) || shown(j) != c.want {
				t.Errorf("Derive %s for %.80q of %.80q returned %.80q and %.80q, %v", kind, c.s, c.d, j.Names, shown(j), ok)
			}
		}
	}
}

// checkDerivesNothing asks all that fails with Derive.
func checkDerivesNothing(t *testing.T, kind string, s string, d string) {
	t.Helper()
	if j, ok := impl.Derive(kind, s, d); ok || len(j.Names) != 0 || len(j.Bags) != 0 || shown(j) != ", 0, 0" {
		t.Errorf("Derive %.40q for %.80q of %.80q returned %.80q, %v", kind, s, d, shown(j), ok)
	}
	if impl.DeriveTight(kind, s, d) {
		t.Errorf("DeriveTight %.40q for %.80q of %.80q is true", kind, s, d)
	}
	for _, name := range []string{"x", "y", "a1", "xy", ""} {
		if bag, ok := impl.DeriveBag(kind, s, d, name); ok || bag != "" {
			t.Errorf("DeriveBag %.40q for %.80q of %.80q returned %q, %v", kind, s, d, bag, ok)
		}
	}
	for _, k := range []int{-1, 0, 1, 2, 1000} {
		if n, ok := impl.DeriveHere(kind, s, d, k); ok || n != 0 {
			t.Errorf("DeriveHere %.40q for %.80q of %.80q and %d returned %d, %v", kind, s, d, k, n, ok)
		}
	}
}

func TestDeriveSecondTerms(t *testing.T) {
	checkDerives(t, []derivesCase{
		// None: the second term is not looked at.
		{"both", "(app x y)", "(app (ax (> (m) a)))", "x (m (> (m) a)), a, 1, 0"},
		{"both", "(app x (app y (lam z z)))", "(app (ax (> (m) a)))", "x (m (> (m) a)), a, 1, 0"},
		{"both", "(app x " + endless + ")", "(app (ax (> (m) a)))", "x (m (> (m) a)), a, 1, 0"},
		{"both", "(app (lam x y) z)", "(app (fun (ax n)))", "y (m n), n, 1, 0"},
		{"both", "(app (lam x y) " + endless + ")", "(app (fun (ax n)))", "y (m n), n, 1, 0"},
		{"both", "(app (app x y) z)", "(app (app (ax (> (m) (> (m) a)))))", "x (m (> (m) (> (m) a))), a, 2, 0"},
		{"both", "(app (app x y) z)", "(app (app (ax (> (m) (> (m b) a)))) (ax b))", "x (m (> (m) (> (m b) a))), z (m b), a, 2, 0"},
		{"both", "(app (app x y) z)", "(app (app (ax (> (m b) (> (m) a))) (ax b)))", "x (m (> (m b) (> (m) a))), y (m b), a, 2, 0"},
		{"both", "(app x y)", "(app (ax (> (m) a)) (ax a))", ""},
		{"both", "(app x y)", "(app (ax (> (m) a)) (ax (> (m) a)))", ""},
		{"both", "(app (lam x y) z)", "(app (fun (ax n)) (ax n))", ""},
		// One.
		{"both", "(app x y)", "(app (ax (> (m a) b)) (ax a))", "x (m (> (m a) b)), y (m a), b, 1, 0"},
		{"both", "(app (lam x x) y)", "(app (fun (ax n)) (ax n))", "y (m n), n, 1, 0"},
		{"both", "(app (lam x x) y)", "(app (fun (ax (> (m) a))) (ax (> (m) a)))", "y (m (> (m) a)), (> (m) a), 1, 0"},
		{"both", "(app x (lam y y))", "(app (ax (> (m (> (m a) a)) b)) (fun (ax a)))", "x (m (> (m (> (m a) a)) b)), b, 1, 0"},
		{"both", "(app x (lam y y))", "(app (ax (> (m l) b)) (tfun (ax n)))", "x (m (> (m l) b)), b, 1, 1"},
		{"both", "(app x y)", "(app (ax (> (m a) b)))", ""},
		{"both", "(app x y)", "(app (ax (> (m a) b)) (ax b))", ""},
		{"both", "(app x y)", "(app (ax (> (m a) b)) (ax a) (ax a))", ""},
		{"both", "(app x y)", "(app (ax (> (m a) b)) (ax (> (m) a)))", ""},
		{"both", "(app x y)", "(app (ax (> (m a) b)) (fun (ax a)))", ""},
		{"both", "(app x (lam y y))", "(app (ax (> (m a) b)) (ax a))", ""},
		// Two, in the order of the bag and in another one.
		{"both", "(app x y)", "(app (ax (> (m a b) c)) (ax a) (ax b))", "x (m (> (m a b) c)), y (m a b), c, 1, 0"},
		{"both", "(app x y)", "(app (ax (> (m a b) c)) (ax b) (ax a))", ""},
		{"both", "(app x y)", "(app (ax (> (m a a) c)) (ax a) (ax a))", "x (m (> (m a a) c)), y (m a a), c, 1, 0"},
		{"both", "(app x y)", "(app (ax (> (m (> (m) a) a) c)) (ax (> (m) a)) (ax a))", "x (m (> (m (> (m) a) a) c)), y (m (> (m) a) a), c, 1, 0"},
		{"both", "(app x y)", "(app (ax (> (m (> (m) a) a) c)) (ax a) (ax (> (m) a)))", ""},
		{"both", "(app x y)", "(app (ax (> (m a b) c)) (ax a))", ""},
		{"both", "(app x y)", "(app (ax (> (m a b) c)) (ax b))", ""},
		{"both", "(app x y)", "(app (ax (> (m a b) c)) (ax a) (ax a))", ""},
		{"both", "(app x y)", "(app (ax (> (m a b) c)) (ax a) (ax b) (ax b))", ""},
		{"both", "(app (lam x (app x x)) y)", "(app (fun (app (ax (> (m a) b)) (ax a))) (ax (> (m a) b)) (ax a))", "y (m (> (m a) b) a), b, 2, 0"},
		{"both", "(app (lam x (app x x)) y)", "(app (fun (app (ax (> (m a) b)) (ax a))) (ax a) (ax (> (m a) b)))", ""},
		{"both", "(app (lam x (app x x)) (lam y y))", "(app (fun (app (ax (> (m l) l)) (ax l))) (fun (ax l)) (tfun (ax n)))", "l, 2, 1"},
		{"both", "(app (lam x (app x x)) (lam y y))", "(app (fun (app (ax (> (m l) l)) (ax l))) (tfun (ax n)) (fun (ax l)))", ""},
		// Several.
		{"both", "(app x y)", "(app (ax (> (m (> (m) a) a a b) c)) (ax (> (m) a)) (ax a) (ax a) (ax b))", "x (m (> (m (> (m) a) a a b) c)), y (m (> (m) a) a a b), c, 1, 0"},
		{"both", "(app x y)", "(app (ax (> (m (> (m) a) a a b) c)) (ax (> (m) a)) (ax a) (ax b) (ax a))", ""},
		{"both", "(app x y)", "(app (ax (> (m (> (m) a) a a b) c)) (ax (> (m) a)) (ax a) (ax b))", ""},
		{"both", "(app x y)", "(app (ax (> (m (> (m) a) a a b) c)) (ax b) (ax a) (ax a) (ax (> (m) a)))", ""},
		{"both", "(app x (app y z))", "(app (ax (> (m a a b) c)) (app (ax (> (m) a))) (app (ax (> (m a) a)) (ax a)) (app (ax (> (m a) b)) (ax a)))",
			"x (m (> (m a a b) c)), y (m (> (m a) a) (> (m a) b) (> (m) a)), z (m a a), c, 4, 0"},
		// Steps and sizes of all of them are added.
		{"head", "(app x (app y z))", "(app (ax (> (m n n) a)) (hap (ax n)) (hap (ax n)))", "x (m (> (m n n) a)), y (m n n), a, 1, 2"},
		{"full", "(app x (app y z))", "(app (ax (> (m n n) a)) (tap (ax n) (ax l)) (app (ax (> (m) n))))", "x (m (> (m n n) a)), y (m (> (m) n) n), z (m l), a, 2, 1"},
	})
}

// Each node stands for one form of terms.
func TestDeriveForms(t *testing.T) {
	name, within, applied := "x", "(lam x x)", "(app x x)"
	for _, c := range []struct{ kind, d, name, lam, app string }{
		{"both", "(ax a)", "x (m a), a, 0, 0", "", ""},
		{"both", "(ax n)", "x (m n), n, 0, 0", "", ""},
		{"both", "(ax (> (m a) a))", "x (m (> (m a) a)), (> (m a) a), 0, 0", "", ""},
		{"both", "(fun (ax a))", "", "(> (m a) a), 0, 0", ""},
		{"both", "(tfun (ax n))", "", "l, 0, 1", ""},
		{"both", "(app (ax (> (m) a)))", "", "", "x (m (> (m) a)), a, 1, 0"},
		{"both", "(app (ax (> (m a) b)) (ax a))", "", "", "x (m (> (m a) b) a), b, 1, 0"},
		{"head", "(hap (ax n))", "", "", "x (m n), n, 0, 1"},
		{"full", "(hap (ax n))", "", "", ""},
		{"full", "(tap (ax n) (ax l))", "", "", "x (m l n), n, 0, 1"},
		{"head", "(tap (ax n) (ax n))", "", "", ""},
		{"both", "(fun (fun (ax a)))", "", "", ""},
		{"both", "(tfun (tfun (ax n)))", "", "", ""},
		{"both", "(app (fun (ax a)) (ax a))", "", "", ""},
		{"both", "(app (ax (> (m (> (m a) a)) b)) (fun (ax a)))", "", "", ""},
	} {
		checkDerives(t, []derivesCase{{c.kind, name, c.d, c.name}, {c.kind, within, c.d, c.lam}, {c.kind, applied, c.d, c.app}})
	}
}

func TestDeriveFun(t *testing.T) {
	checkDerives(t, []derivesCase{
		// The name is used not at all, once and several times.
		{"both", "(lam x y)", "(fun (ax a))", "y (m a), (> (m) a), 0, 0"},
		{"both", "(lam x x)", "(fun (ax a))", "(> (m a) a), 0, 0"},
		{"both", "(lam x (app x x))", "(fun (app (ax (> (m a) b)) (ax a)))", "(> (m (> (m a) b) a) b), 1, 0"},
		{"both", "(lam x (app x x))", "(fun (app (ax (> (m a a) b)) (ax a) (ax a)))", "(> (m (> (m a a) b) a a) b), 1, 0"},
		{"both", "(lam x (app x x))", "(fun (app (ax (> (m) b))))", "(> (m (> (m) b)) b), 1, 0"},
		{"both", "(lam x (app y x))", "(fun (app (ax (> (m) b))))", "y (m (> (m) b)), (> (m) b), 1, 0"},
		{"both", "(lam x (app y x))", "(fun (app (ax (> (m a b b) b)) (ax a) (ax b) (ax b)))", "y (m (> (m a b b) b)), (> (m a b b) b), 1, 0"},
		{"both", "(lam x (lam y (app y x)))", "(fun (fun (app (ax (> (m a) b)) (ax a))))", "(> (m a) (> (m (> (m a) b)) b)), 1, 0"},
		{"both", "(lam x (lam y x))", "(fun (fun (ax a)))", "(> (m a) (> (m) a)), 0, 0"},
		{"both", "(lam x (lam y z))", "(fun (fun (ax a)))", "z (m a), (> (m) (> (m) a)), 0, 0"},
		// It is bound once more within.
		{"both", "(lam x (lam x x))", "(fun (fun (ax a)))", "(> (m) (> (m a) a)), 0, 0"},
		{"both", "(lam x (app x (lam x x)))", "(fun (app (ax (> (m (> (m a) a)) b)) (fun (ax a))))", "(> (m (> (m (> (m a) a)) b)) b), 1, 0"},
		{"both", "(lam x (app (lam x x) x))", "(fun (app (fun (ax a)) (ax a)))", "(> (m a) a), 1, 0"},
		{"both", "(app (lam x (lam x x)) x)", "(app (fun (fun (ax a))))", "(> (m a) a), 1, 0"},
		{"both", "(app x (lam x x))", "(app (ax (> (m (> (m a) a)) b)) (fun (ax a)))", "x (m (> (m (> (m a) a)) b)), b, 1, 0"},
		{"both", "(app (app x (lam x x)) x)", "(app (app (ax (> (m (> (m a) a)) (> (m c) b))) (fun (ax a))) (ax c))", "x (m (> (m (> (m a) a)) (> (m c) b)) c), b, 2, 0"},
		{"both", "(lam x (lam y (lam x (app (app x y) x))))", "(fun (fun (fun (app (app (ax (> (m a) (> (m b) c))) (ax a)) (ax b)))))", "(> (m) (> (m a) (> (m (> (m a) (> (m b) c)) b) c))), 2, 0"},
		// Lams beside each other keep their bags apart.
		{"both", "(app (lam x x) (lam y y))", "(app (fun (ax (> (m a) a))) (fun (ax a)))", "(> (m a) a), 1, 0"},
		{"both", "(lam x (app (lam y y) (lam z x)))", "(fun (app (fun (ax (> (m) a))) (fun (ax a))))", "(> (m a) (> (m) a)), 1, 0"},
		{"both", "(app x (lam y y))", "(app (ax (> (m (> (m a) a) (> (m b) b)) c)) (fun (ax a)) (fun (ax b)))", "x (m (> (m (> (m a) a) (> (m b) b)) c)), c, 1, 0"},
		{"both", "(app x (lam y y))", "(app (ax (> (m (> (m a) a) (> (m b) b)) c)) (fun (ax b)) (fun (ax a)))", ""},
	})
}

func TestDeriveTfun(t *testing.T) {
	checkDerives(t, []derivesCase{
		// The name is used not at all, once and several times.
		{"both", "(lam x y)", "(tfun (ax n))", "y (m n), l, 0, 1"},
		{"both", "(lam x y)", "(tfun (ax l))", "y (m l), l, 0, 1"},
		{"both", "(lam x x)", "(tfun (ax n))", "l, 0, 1"},
		{"both", "(lam x x)", "(tfun (ax l))", "l, 0, 1"},
		{"head", "(lam x (app x x))", "(tfun (hap (ax n)))", "l, 0, 2"},
		{"full", "(lam x (app x x))", "(tfun (tap (ax n) (ax n)))", "l, 0, 2"},
		{"full", "(lam x (app x x))", "(tfun (tap (ax n) (ax l)))", "l, 0, 2"},
		{"full", "(lam x (app (app x y) x))", "(tfun (tap (tap (ax n) (ax l)) (ax n)))", "y (m l), l, 0, 3"},
		{"both", "(lam x (app y x))", "(tfun (app (ax (> (m l l n) n)) (ax l) (ax l) (ax n)))", "y (m (> (m l l n) n)), l, 1, 1"},
		// It is bound once more within.
		{"both", "(lam x (lam x x))", "(tfun (tfun (ax n)))", "l, 0, 2"},
		{"both", "(lam x (app (lam x x) y))", "(tfun (app (fun (ax n)) (ax n)))", "y (m n), l, 1, 1"},
		{"both", "(lam x (app (lam x (app y x)) x))", "(tfun (app (fun (app (ax (> (m a) n)) (ax a))) (ax a)))", ""},
		{"both", "(lam x (app (lam x (app y x)) x))", "(tfun (app (fun (app (ax (> (m n) n)) (ax n))) (ax n)))", "y (m (> (m n) n)), l, 2, 1"},
		// The bag of another name is not asked.
		{"both", "(lam x (app y x))", "(tfun (app (ax (> (m) n))))", "y (m (> (m) n)), l, 1, 1"},
		{"both", "(lam x (lam y (app x y)))", "(fun (tfun (app (ax (> (m n) n)) (ax n))))", "(> (m (> (m n) n)) l), 1, 1"},
		{"both", "(lam x (lam y (app x y)))", "(tfun (tfun (app (ax (> (m n) n)) (ax n))))", ""},
		// The bag is not tight.
		{"both", "(lam x (app x y))", "(tfun (app (ax (> (m) n))))", ""},
		{"both", "(lam x (app y x))", "(tfun (app (ax (> (m a) n)) (ax a)))", ""},
		{"both", "(lam x (app y x))", "(tfun (app (ax (> (m a n) n)) (ax a) (ax n)))", ""},
		{"both", "(lam x (app y x))", "(tfun (app (ax (> (m l n z) n)) (ax l) (ax n) (ax z)))", ""},
		{"both", "(lam x (app y x))", "(tfun (app (ax (> (m (> (m) n)) n)) (ax (> (m) n))))", ""},
		// The type is not tight.
		{"both", "(lam x y)", "(tfun (ax a))", ""},
		{"both", "(lam x y)", "(tfun (ax m))", ""},
		{"both", "(lam x y)", "(tfun (ax (> (m) n)))", ""},
		{"both", "(lam x (lam y y))", "(tfun (fun (ax n)))", ""},
		{"both", "(lam x (lam y y))", "(fun (tfun (ax n)))", "(> (m) l), 0, 1"},
		// Neither is.
		{"both", "(lam x x)", "(tfun (ax a))", ""},
		{"both", "(lam x x)", "(tfun (ax (> (m n) n)))", ""},
	})
}

func TestDeriveHapAndTap(t *testing.T) {
	checkDerives(t, []derivesCase{
		{"head", "(app x y)", "(hap (ax n))", "x (m n), n, 0, 1"},
		{"head", "(app x " + endless + ")", "(hap (ax n))", "x (m n), n, 0, 1"},
		{"head", "(app (app x y) z)", "(hap (hap (ax n)))", "x (m n), n, 0, 2"},
		{"head", "(app (app (lam x x) y) z)", "(hap (app (fun (ax n)) (ax n)))", "y (m n), n, 1, 1"},
		{"full", "(app x y)", "(tap (ax n) (ax n))", "x (m n), y (m n), n, 0, 1"},
		{"full", "(app x y)", "(tap (ax n) (ax l))", "x (m n), y (m l), n, 0, 1"},
		{"full", "(app x (lam y y))", "(tap (ax n) (tfun (ax n)))", "x (m n), n, 0, 2"},
		{"full", "(app (app x y) z)", "(tap (tap (ax n) (ax n)) (ax n))", "x (m n), y (m n), z (m n), n, 0, 2"},
		{"full", "(app x (app y z))", "(tap (ax n) (tap (ax n) (ax n)))", "x (m n), y (m n), z (m n), n, 0, 2"},
		{"full", "(app (app (lam x x) y) (app (lam x x) z))", "(tap (app (fun (ax n)) (ax n)) (app (fun (ax l)) (ax l)))", "y (m n), z (m l), n, 2, 1"},
		// The first type is another one than n.
		{"head", "(app x y)", "(hap (ax l))", ""},
		{"head", "(app x y)", "(hap (ax a))", ""},
		{"head", "(app x y)", "(hap (ax (> (m) n)))", ""},
		{"head", "(app (lam x x) y)", "(hap (tfun (ax n)))", ""},
		{"head", "(app (lam x x) y)", "(hap (fun (ax n)))", ""},
		{"full", "(app x y)", "(tap (ax l) (ax n))", ""},
		{"full", "(app x y)", "(tap (ax a) (ax n))", ""},
		{"full", "(app x y)", "(tap (ax (> (m n) n)) (ax n))", ""},
		{"full", "(app (lam x x) y)", "(tap (tfun (ax n)) (ax n))", ""},
		{"full", "(app (lam x x) y)", "(tap (fun (ax n)) (ax n))", ""},
		// The second type is not tight.
		{"full", "(app x y)", "(tap (ax n) (ax a))", ""},
		{"full", "(app x y)", "(tap (ax n) (ax m))", ""},
		{"full", "(app x y)", "(tap (ax n) (ax (> (m) n)))", ""},
		{"full", "(app x (lam y y))", "(tap (ax n) (fun (ax n)))", ""},
		// The first type of an app is no type of functions.
		{"both", "(app x y)", "(app (ax n))", ""},
		{"both", "(app x y)", "(app (ax a) (ax a))", ""},
		{"both", "(app (lam x x) y)", "(app (tfun (ax n)) (ax n))", ""},
		// The term is a name or a lam.
		{"head", "x", "(hap (ax n))", ""},
		{"head", "(lam x (app x y))", "(hap (ax n))", ""},
		{"full", "x", "(tap (ax n) (ax n))", ""},
		{"full", "(lam x (app x y))", "(tap (ax n) (ax n))", ""},
		{"both", "x", "(app (ax (> (m) a)))", ""},
		{"both", "(lam x (app x y))", "(app (ax (> (m) a)))", ""},
		// Each one is for its own kind.
		{"full", "(app x y)", "(hap (ax n))", ""},
		{"head", "(app x y)", "(tap (ax n) (ax n))", ""},
		{"full", "(lam z (app x y))", "(fun (hap (ax n)))", ""},
		{"head", "(lam z (app x y))", "(tfun (tap (ax n) (ax n)))", ""},
	})
}

// Names whose bags are empty are left out, the order is that of TermFree, and sums have equal types as often as they are.
func TestDeriveJudgement(t *testing.T) {
	checkDerives(t, []derivesCase{
		{"both", "(app y x)", "(app (ax (> (m a) b)) (ax a))", "y (m (> (m a) b)), x (m a), b, 1, 0"},
		{"both", "(app (app z y) x)", "(app (app (ax (> (m a) (> (m b) c))) (ax a)) (ax b))", "z (m (> (m a) (> (m b) c))), y (m a), x (m b), c, 2, 0"},
		{"both", "(app (app z y) x)", "(app (app (ax (> (m) (> (m b) c)))) (ax b))", "z (m (> (m) (> (m b) c))), x (m b), c, 2, 0"},
		{"both", "(app (app z x) x)", "(app (app (ax (> (m) (> (m b) c)))) (ax b))", "z (m (> (m) (> (m b) c))), x (m b), c, 2, 0"},
		// A name stands free first where no node stands for it.
		{"both", "(app (app x (app y z)) (app z y))", "(app (app (ax (> (m) (> (m b) c)))) (app (ax (> (m a) b)) (ax a)))", "x (m (> (m) (> (m b) c))), y (m a), z (m (> (m a) b)), c, 3, 0"},
		{"both", "(app (lam x (app z1 z0)) (app z0 z1))", "(app (fun (app (ax (> (m) a)))))", "z1 (m (> (m) a)), a, 2, 0"},
		{"both", "(app (app (lam x x) x) x)", "(app (app (fun (ax (> (m a) a))) (ax (> (m a) a))) (ax a))", "x (m (> (m a) a) a), a, 2, 0"},
		{"both", "(lam x (app y (lam y x)))", "(fun (app (ax (> (m (> (m) b)) a)) (fun (ax b))))", "y (m (> (m (> (m) b)) a)), (> (m b) a), 1, 0"},
		{"full", "(app (app (app x y) y) y)", "(tap (tap (tap (ax n) (ax l)) (ax n)) (ax l))", "x (m n), y (m l l n), n, 0, 3"},
		{"full", "(app (app (app x x) x) x)", "(tap (tap (tap (ax n) (ax n)) (ax n)) (ax n))", "x (m n n n n), n, 0, 3"},
		{"both", "(app (app x y) y)", "(app (app (ax (> (m a b) (> (m a c) d))) (ax a) (ax b)) (ax a) (ax c))", "x (m (> (m a b) (> (m a c) d))), y (m a a b c), d, 2, 0"},
		{"both", "(app (app x y) y)", "(app (app (ax (> (m (> (m) a)) (> (m (> (m) a) a) d))) (ax (> (m) a))) (ax (> (m) a)) (ax a))", "x (m (> (m (> (m) a)) (> (m (> (m) a) a) d))), y (m (> (m) a) (> (m) a) a), d, 2, 0"},
		{"both", "(lam x x)", "(fun (ax a))", "(> (m a) a), 0, 0"},
		{"both", "x123", "(ax a)", "x123 (m a), a, 0, 0"},
	})
}

func TestDeriveTight(t *testing.T) {
	for _, c := range []struct {
		kind, s, d string
		want       bool
	}{
		{"both", "x", "(ax n)", true},
		{"both", "x", "(ax l)", true},
		{"both", "x", "(ax a)", false},
		{"both", "x", "(ax m)", false},
		{"both", "x", "(ax (> (m) n))", false},
		{"both", "(lam x x)", "(tfun (ax n))", true},
		{"both", "(lam x y)", "(tfun (ax n))", true},
		// The type is tight and a bag is not.
		{"both", "(app x y)", "(app (ax (> (m) n)))", false},
		{"both", "(app x y)", "(app (ax (> (m n) n)) (ax n))", false},
		{"both", "(lam y (app x y))", "(tfun (app (ax (> (m n) n)) (ax n)))", false},
		{"both", "(app (lam x (app y x)) z)", "(app (fun (app (ax (> (m a) n)) (ax a))) (ax a))", false},
		{"head", "(app (app (lam x y) x) (app x z))", "(hap (app (fun (ax n))))", true},
		{"full", "(app x (app y z))", "(tap (ax n) (app (ax (> (m) n))))", false},
		// A bag is tight and the type is not.
		{"both", "(lam x y)", "(fun (ax n))", false},
		{"both", "(lam x y)", "(fun (ax l))", false},
		{"both", "(lam x x)", "(fun (ax n))", false},
		{"both", "(lam x (lam y x))", "(fun (tfun (ax n)))", false},
		{"both", "(app (lam x (lam y x)) z)", "(app (fun (fun (ax n))) (ax n))", false},
		{"both", "(app (lam x (lam y x)) z)", "(app (fun (tfun (ax n))) (ax n))", true},
		// The bags of bound names are not asked.
		{"both", "(app (lam x (app x y)) (lam z z))", "(app (fun (app (ax (> (m n) n)) (ax n))) (fun (ax n)))", true},
		{"both", "(app (lam x y) " + endless + ")", "(app (fun (ax n)))", true},
		{"both", "(app (lam x x) y)", "(app (fun (ax a)) (ax a))", false},
		{"head", "(app x y)", "(hap (ax n))", true},
		{"full", "(app x y)", "(tap (ax n) (ax l))", true},
		{"full", "(app (app x y) z)", "(tap (tap (ax n) (ax l)) (ax n))", true},
		// Nothing is derived.
		{"both", "x", "(fun (ax n))", false},
		{"both", "(lam x x)", "(ax n)", false},
		{"full", "(app x y)", "(hap (ax n))", false},
		{"head", "(app x y)", "(tap (ax n) (ax n))", false},
	} {
		for _, kind := range kinds() {
			if c.kind != "both" && c.kind != kind {
				continue
			}
			if impl.DeriveTight(kind, c.s, c.d) != c.want {
				t.Errorf("DeriveTight %s for %q of %q is %v", kind, c.s, c.d, !c.want)
			}
		}
	}
}

// sums is a derivation for (app (app z (app x y)) y) with twice n and m more types in the bag of y, all tight.
func sums(n, m int) string {
	from := "(m" + strings.Repeat(" n", n) + ")"
	one := "(app (ax (> " + from + " n))" + strings.Repeat(" (ax n)", n) + ")"
	last := "(m" + strings.Repeat(" n", m) + ")"
	return "(app (app (ax (> (m n n) (> " + last + " n))) " + one + " " + one + ")" + strings.Repeat(" (ax n)", m) + ")"
}

// All types and bags on the way have at most TypeMax atoms, also those that are taken away again.
func TestDeriveTypeMax(t *testing.T) {
	const most = impl.TypeMax
	z := "(app (app z (app x y)) y)"
	bags := "z (m (> (m n n) (> (m n n n n n n n) n))), x (m (> (m" + strings.Repeat(" n", 96) + ") n) (> (m" + strings.Repeat(" n", 96) + ") n))"
	bagY := "(m" + strings.Repeat(" n", most-1) + ")"
	checkDerives(t, []derivesCase{
		// The bag of an ax has one atom more than its type.
		{"both", "x", "(ax " + typeWith(most-1) + ")", "x (m " + typeWith(most-1) + "), " + typeWith(most-1) + ", 0, 0"},
		{"both", "x", "(ax " + typeWith(most) + ")", ""},
		{"both", "(lam x y)", "(fun (ax " + typeWith(most-2) + "))", "y (m " + typeWith(most-2) + "), (> (m) " + typeWith(most-2) + "), 0, 0"},
		{"both", "(lam x y)", "(fun (ax " + typeWith(most-1) + "))", ""},
		// The type of a fun.
		{"both", "(lam x x)", "(fun (ax " + typeWith(99) + "))", "(> (m " + typeWith(99) + ") " + typeWith(99) + "), 0, 0"},
		{"both", "(lam x x)", "(fun (ax " + typeWith(100) + "))", ""},
		{"both", "(lam w (lam x x))", "(fun (fun (ax " + typeWith(98) + ")))", "(> (m) (> (m " + typeWith(98) + ") " + typeWith(98) + ")), 0, 0"},
		{"both", "(lam w (lam x x))", "(fun (fun (ax " + typeWith(99) + ")))", ""},
		// The sum of bags for a free name.
		{"both", z, sums(96, 7), bags + ", y " + bagY + ", n, 4, 0"},
		{"both", z, sums(96, 8), ""},
		// The sum of bags for a bound name that a tfun takes away.
		{"both", "(lam y " + z + ")", "(tfun " + sums(96, 7) + ")", bags + ", l, 4, 1"},
		{"both", "(lam y " + z + ")", "(tfun " + sums(96, 8) + ")", ""},
		{"both", "(lam y (lam y " + z + "))", "(tfun (tfun " + sums(96, 7) + "))", bags + ", l, 4, 2"},
		{"both", "(lam y (lam y " + z + "))", "(tfun (tfun " + sums(96, 8) + "))", ""},
		{"both", "(app v (lam y " + z + "))", "(app (ax (> (m l) a)) (tfun " + sums(96, 7) + "))", "v (m (> (m l) a)), " + bags + ", a, 5, 1"},
		{"both", "(app v (lam y " + z + "))", "(app (ax (> (m l) a)) (tfun " + sums(96, 8) + "))", ""},
	})
	// A type on the way that an app takes apart again.
	y := "(app (lam y " + z + ") u)"
	for _, kind := range kinds() {
		for m := 0; m <= 8; m++ {
			n := 2*96 + m
			d := "(app (fun " + sums(96, m) + ")" + strings.Repeat(" (ax n)", n) + ")"
			bag, ok := impl.DeriveBag(kind, y, d, "u")
			if fits := n <= most-3; ok != fits || fits && bag != "(m"+strings.Repeat(" n", n)+")" {
				t.Errorf("a type of functions from %d types is on the way: %q, %v", n, bag, ok)
			}
		}
	}
}

// The sum of bags can be too large in an app, a tap, and where there are no parts of it that are.
func TestDeriveSumMax(t *testing.T) {
	const most = impl.TypeMax
	half := func(n int) string {
		return "(app (ax (> (m" + strings.Repeat(" n", n) + ") n))" + strings.Repeat(" (ax n)", n) + ")"
	}
	for _, c := range []struct {
		n, m int
		ok   bool
	}{{100, 99, true}, {99, 100, true}, {100, 100, false}, {101, 99, false}} {
		s := "(app (app z (app x y)) (app w y))"
		d := "(tap (tap (ax n) " + half(c.n) + ") " + half(c.m) + ")"
		bag, ok := impl.DeriveBag("full", s, d, "y")
		if ok != c.ok || ok && impl.TypeSize(bag) != most {
			t.Errorf("a sum of %d and %d types: %q, %v", c.n, c.m, bag, ok)
		}
		if _, ok := impl.Derive("full", "(lam y "+s+")", "(tfun "+d+")"); ok != c.ok {
			t.Errorf("a sum of %d and %d types within tfun: %v", c.n, c.m, ok)
		}
	}
	used := strings.Repeat("(app ", most-2) + "x" + strings.Repeat(" x)", most-2)
	taps := strings.Repeat("(tap ", most-2) + "(ax n)" + strings.Repeat(" (ax n))", most-2)
	if bag, ok := impl.DeriveBag("full", used, taps, "x"); !ok || impl.TypeSize(bag) != most {
		t.Errorf("a bag of %d uses: %q, %v", most-1, bag, ok)
	}
	if j, ok := impl.Derive("full", "(app "+used+" x)", "(tap "+taps+" (ax n))"); ok || shown(j) != ", 0, 0" {
		t.Errorf("a bag of %d uses: %q, %v", most, shown(j), ok)
	}
	if j, ok := impl.Derive("full", "(app "+used+" y)", "(tap "+taps+" (ax n))"); !ok || j.Size != most-1 {
		t.Errorf("bags of %d and 1 uses: %q, %v", most-1, shown(j), ok)
	}
}

// threeTaps is a term and a derivation for it, which has so many nodes from 450 to 603.
func threeTaps(nodes int) (string, string) {
	const atLeast = 3*2 + 2 + 5
	left := nodes - atLeast
	var terms, parts []string
	for i := range 3 {
		n := left / (3 - i)
		left -= n
		terms = append(terms, "(app x"+decimal(i)+" y"+decimal(i)+")")
		parts = append(parts, "(app (ax (> (m"+strings.Repeat(" n", n)+") n))"+strings.Repeat(" (ax n)", n)+")")
	}
	s := "(app (app " + terms[0] + " " + terms[1] + ") " + terms[2] + ")"
	d := "(tap (tap " + parts[0] + " " + parts[1] + ") " + parts[2] + ")"
	return strings.Repeat("(lam x ", 5) + s + ")))))", strings.Repeat("(tfun ", 5) + d + ")))))"
}

func TestDeriveNodesMax(t *testing.T) {
	for _, nodes := range []int{450, 599, 600} {
		s, d := threeTaps(nodes)
		checkNodes(t, "full", d, nodes)
		if j, ok := impl.Derive("full", s, d); !ok || j.Steps != 3 || j.Size != 7 || len(j.Names) != 6 || j.Type != "l" {
			t.Errorf("Derive of %d nodes returned %.200q, %v", nodes, shown(j), ok)
		}
	}
	s, d := threeTaps(impl.NodesMax + 1)
	checkNoDerivation(t, "full", d, s)
}

// A greatest term, with a node for each part of it that is on the left.
func TestDeriveTermMax(t *testing.T) {
	const most = (impl.TermMax - 1) / 2
	for _, c := range []struct{ kind, s, d, want string }{
		{"head", deepLams(most), strings.Repeat("(tfun ", most) + "(ax n)" + strings.Repeat(")", most), "l, 0, " + decimal(most)},
		{"head", leftApps(most), strings.Repeat("(hap ", most) + "(ax n)" + strings.Repeat(")", most), "x (m n), n, 0, " + decimal(most)},
		{"head", deepLams(most + 1), strings.Repeat("(tfun ", most+1) + "(ax n)" + strings.Repeat(")", most+1), ""},
		{"head", leftApps(most + 1), strings.Repeat("(hap ", most+1) + "(ax n)" + strings.Repeat(")", most+1), ""},
	} {
		checkDerives(t, []derivesCase{c})
	}
}

func TestDeriveBag(t *testing.T) {
	s := "(app (app x (app y z)) (lam w (app w y)))"
	d := "(app (app (ax (> (m) (> (m (> (m (> (m b) a)) a)) c)))) (fun (app (ax (> (m b) a)) (ax b))))"
	for _, kind := range kinds() {
		for name, want := range map[string]string{
			"x": "(m (> (m) (> (m (> (m (> (m b) a)) a)) c)))", "y": "(m b)",
			"z": "(m)", "w": "(m)", "a": "(m)", "a123": "(m)", "z0": "(m)",
		} {
			if bag, ok := impl.DeriveBag(kind, s, d, name); !ok || bag != want {
				t.Errorf("DeriveBag %s of %q returned %q, %v", kind, name, bag, ok)
			}
		}
		for _, c := range []struct{ s, d, name, want string }{
			{"(lam x x)", "(fun (ax a))", "x", "(m)"},
			{"(lam x (app y x))", "(fun (app (ax (> (m a) b)) (ax a)))", "x", "(m)"},
			{"(app x (lam x x))", "(app (ax (> (m (> (m a) a)) b)) (fun (ax a)))", "x", "(m (> (m (> (m a) a)) b))"},
			{"(app (lam x x) x)", "(app (fun (ax a)) (ax a))", "x", "(m a)"},
			{"x", "(ax a)", "x", "(m a)"},
			{"x", "(ax a)", "y", "(m)"},
			{"x1", "(ax a)", "x", "(m)"},
			{"x1", "(ax a)", "x1", "(m a)"},
		} {
			if bag, ok := impl.DeriveBag(kind, c.s, c.d, c.name); !ok || bag != c.want {
				t.Errorf("DeriveBag %s for %q of %q returned %q, %v", kind, c.s, c.name, bag, ok)
			}
		}
		for _, name := range []string{"", "xy", "1", "x1234", ">", "lam", "app", "(m)", "(x)", "X", "x ", " x", "\x00", "(lam x x)", strings.Repeat("x", 10000)} {
			if bag, ok := impl.DeriveBag(kind, s, d, name); ok || bag != "" {
				t.Errorf("DeriveBag %s of %.40q returned %q, %v", kind, name, bag, ok)
			}
		}
	}
}

func TestDeriveHere(t *testing.T) {
	for _, c := range []struct {
		kind, s, d string
		want       []int // for all parts
	}{
		{"both", "x", "(ax a)", []int{1}},
		{"both", "(lam x x)", "(fun (ax a))", []int{1, 1}},
		{"both", "(app (lam x x) y)", "(app (fun (ax n)) (ax n))", []int{1, 1, 1, 1}},
		{"both", "(app x y)", "(app (ax (> (m) a)))", []int{1, 1, 0}},
		{"both", "(app x y)", "(app (ax (> (m a) b)) (ax a))", []int{1, 1, 1}},
		{"both", "(app x y)", "(app (ax (> (m a a b) b)) (ax a) (ax a) (ax b))", []int{1, 1, 3}},
		// No node stands for the second term and for its parts.
		{"both", "(app x (app y (lam z (app z z))))", "(app (ax (> (m) a)))", []int{1, 1, 0, 0, 0, 0, 0, 0}},
		{"both", "(app (lam x y) (app z w))", "(app (fun (ax n)))", []int{1, 1, 1, 0, 0, 0}},
		{"both", "(app (app x (app y y)) z)", "(app (app (ax (> (m) (> (m a) b)))) (ax a))", []int{1, 1, 1, 0, 0, 0, 1}},
		{"head", "(app (app x (lam y y)) z)", "(hap (hap (ax n)))", []int{1, 1, 1, 0, 0, 0}},
		{"full", "(app (app x (lam y y)) z)", "(tap (tap (ax n) (tfun (ax n))) (ax n))", []int{1, 1, 1, 1, 1, 1}},
		// Several nodes stand for the second term, and for its parts as many as there are in each.
		{"both", "(app x (lam y (app y z)))", "(app (ax (> (m (> (m (> (m b b) a)) a) (> (m (> (m) a)) a)) c)) (fun (app (ax (> (m b b) a)) (ax b) (ax b))) (fun (app (ax (> (m) a)))))", []int{1, 1, 2, 2, 2, 2}},
		{"both", "(app x (app y (app z w)))", "(app (ax (> (m a a) c)) (app (ax (> (m) a))) (app (ax (> (m b b) a)) (app (ax (> (m) b))) (app (ax (> (m a) b)) (ax a))))", []int{1, 1, 2, 2, 2, 2, 1}},
		// The same name at another place is another part.
		{"both", "(app (app x x) x)", "(app (app (ax (> (m) (> (m a a) b)))) (ax a) (ax a))", []int{1, 1, 1, 0, 2}},
	} {
		for _, kind := range kinds() {
			if c.kind != "both" && c.kind != kind {
				continue
			}
			for k, want := range c.want {
				if n, ok := impl.DeriveHere(kind, c.s, c.d, k); !ok || n != want {
					t.Errorf("DeriveHere %s for %q of %q and %d returned %d, %v", kind, c.s, c.d, k, n, ok)
				}
			}
			for _, k := range []int{-1, -2, -1 << 63, len(c.want), len(c.want) + 1, 1<<63 - 1} {
				if n, ok := impl.DeriveHere(kind, c.s, c.d, k); ok || n != 0 {
					t.Errorf("DeriveHere %s for %q of %q and %d returned %d, %v", kind, c.s, c.d, k, n, ok)
				}
			}
		}
	}
}

func TestDerivationInvalid(t *testing.T) {
	for _, s := range noDerivations() {
		for _, kind := range kinds() {
			for _, term := range []string{"x", "(lam x x)", "(app x y)", "lam"} {
				checkNoDerivation(t, kind, s, term)
			}
		}
	}
	for _, kind := range noKinds() {
		for _, d := range []string{"(ax a)", "(ax n)", "(fun (ax a))", "(app (ax (> (m) n)))", "(hap (ax n))", "(tap (ax n) (ax n))", "(ax)", ""} {
			for _, s := range []string{"x", "(lam x x)", "(app x y)", ""} {
				checkNoDerivationOf(t, kind, d, s)
			}
		}
	}
	for _, s := range noTerms() {
		for _, kind := range kinds() {
			for _, d := range []string{"(ax n)", "(fun (ax n))", "(tfun (ax n))", "(app (ax (> (m) n)))", "(hap (ax n))", "(tap (ax n) (ax n))", ""} {
				checkDerivesNothing(t, kind, s, d)
			}
		}
	}
}

// checkNoDerivation expects a text to be no derivation of any kind.
func checkNoDerivation(t *testing.T, kind string, s string, term string) {
	t.Helper()
	checkNoDerivationOf(t, kind, s, term)
	if impl.DerivePlain(s) {
		t.Errorf("DerivePlain of %.40q is true", s)
	}
}

func checkNoDerivationOf(t *testing.T, kind string, s string, term string) {
	t.Helper()
	if impl.DerivationValid(kind, s) || impl.DerivationNodes(kind, s) != -1 {
		t.Errorf("%.40q %.40q: DerivationValid %v, DerivationNodes %d", kind, s, impl.DerivationValid(kind, s), impl.DerivationNodes(kind, s))
	}
	if types, ok := impl.DeriveTypes(kind, s); ok || len(types) != 0 {
		t.Errorf("DeriveTypes %.40q of %.40q returned %q, %v", kind, s, types, ok)
	}
	checkDerivesNothing(t, kind, term, s)
}

// Results are new memory: what is done to one changes no other one.
func TestDeriveResults(t *testing.T) {
	const s, d = "(app (app x y) z)", "(app (app (ax (> (m a) (> (m b) c))) (ax a)) (ax b))"
	const want = "x (m (> (m a) (> (m b) c))), y (m a), z (m b), c, 2, 0"
	first, _ := impl.Derive("full", s, d)
	second, _ := impl.Derive("full", s, d)
	types, _ := impl.DeriveTypes("full", d)
	for i := range first.Names {
		first.Names[i], first.Bags[i] = "w", "(m)"
		types[i] = "z"
	}
	_ = append(first.Names[:1], first.Bags...)
	_ = append(first.Bags[:1], "(m z)", "(m z)", "(m z)")
	_ = append(types[:1], "d", "e", "f")
	if shown(second) != want {
		t.Errorf("results share memory: %q", shown(second))
	}
	if third, _ := impl.Derive("full", s, d); shown(third) != want {
		t.Errorf("results share memory: %q", shown(third))
	}
	if again, _ := impl.DeriveTypes("full", d); !slices.Equal(again, []string{"(> (m a) (> (m b) c))", "a", "b"}) {
		t.Errorf("results share memory: %q", again)
	}
}

// The two slices of a judgement share no memory, also not behind their ends.
func TestDeriveResultSlices(t *testing.T) {
	j, ok := impl.Derive("head", "(app (app x y) z)", "(app (app (ax (> (m) (> (m b) c)))) (ax b))")
	if !ok || len(j.Names) != 2 {
		t.Fatalf("Derive returned %q, %v", shown(j), ok)
	}
	names := j.Names[:cap(j.Names)]
	for i := range names {
		names[i] = "w"
	}
	if !slices.Equal(j.Bags, []string{"(m (> (m) (> (m b) c)))", "(m b)"}) {
		t.Errorf("the bags of the judgement became %q", j.Bags)
	}
}
