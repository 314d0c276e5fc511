package tests

import (
	"slices"
	"strings"
	"sync"
	"testing"

	"loop.example/intersectiontypes/impl"
)

// tightTexts are the terms that the promises are tested with: many of them come to no normal term,
// and some have no tight derivation though they do.
var tightTexts = sync.OnceValue(func() []string {
	list := []string{
		endless, growing, "(app x " + endless + ")", "(lam x (app x " + growing + "))", "(app (lam x y) " + growing + ")", "(app " + two + " " + two + ")",
		"(app (app " + three + " " + two + ") x)", "(app (app (app " + two + " " + three + ") " + same + ") y)", waits(impl.StepsMax), waits(impl.StepsMax + 1),
		leftApps(199), leftApps(200), rightApps(198), rightApps(199), sames(99, "y"), "(app (lam y x) " + rightApps(197) + ")", "(app (lam y y) " + rightApps(197) + ")",
		blocks([]int{44, 40, 40, 20}, 15, "y"), blocks([]int{44, 40, 40, 20}, 16, "y"), block(49, "y"), block(50, "y"), "xy", "(app x)", "",
	}
	for _, m := range tightTrees() {
		list = append(list, m.text())
	}
	return list
})

// The terms take no step, one and many, and their names are used by no node, one and several.
func TestTightTreesAreMany(t *testing.T) {
	for _, kind := range kinds() {
		steps, uses, shares := map[int]int{}, map[int]int{}, map[int]int{}
		none, equal, different, lost := 0, 0, 0, 0
		for _, m := range tightTrees() {
			want := wantTight(kind, m)
			if want == nil {
				none++
				continue
			}
			steps[min(want.steps, 6)]++
			for _, d := range want.proof.nodes() {
				if d.word != "app" || d.below[0].word != "fun" {
					continue
				}
				n := len(d.below) - 1
				uses[min(n, 3)]++
				if n > 1 && len(textsOfBelow(d)) < n {
					equal++
				} else if n > 1 {
					different++
				}
			}
			for _, n := range want.claim.shares(m) {
				shares[min(n, 2)]++
			}
			if len(want.normal.free()) < len(m.free()) {
				lost++
			}
		}
		for n := range 7 {
			if steps[n] < 30 {
				t.Errorf("%s: there are %d terms with %d steps", kind, steps[n], n)
			}
		}
		if none < 60 || uses[0] < 300 || uses[1] < 300 || uses[2] < 100 || uses[3] < 30 || equal < 30 || different < 30 || lost < 100 {
			t.Errorf("%s: %d terms without a tight derivation, names used %v times, %d with equal types, %d with others, %d terms that lose names", kind, none, uses, equal, different, lost)
		}
		if shares[0] < 100 || shares[1] < 300 || kind == "full" && shares[2] < 100 {
			t.Errorf("%s: the free names have %v types", kind, shares)
		}
	}
}

// textsOfBelow has the second derivations of an app, each text once.
func textsOfBelow(d *proof) []string {
	var list []string
	for _, e := range d.below[1:] {
		list = append(list, e.text())
	}
	return slices.Compact(slices.Sorted(slices.Values(list)))
}

// Each function tells the same of a term as the model does.
func TestTightModel(t *testing.T) {
	t.Parallel()
	for _, m := range tightTrees() {
		for _, kind := range kinds() {
			checkTightModel(t, kind, m)
		}
	}
}

func checkTightModel(t *testing.T, kind string, m *tree) {
	t.Helper()
	s := m.text()
	text := ""
	if want := wantTightNormal(kind, m); want != nil {
		text = want.proof.text()
	}
	if d, ok := impl.TightNormal(kind, s); d != text || ok != (text != "") {
		t.Fatalf("TightNormal %s of %q returned %q, %v, not %q", kind, s, d, ok, text)
	}
	want := wantTight(kind, m)
	if want == nil {
		checkNotTight(t, kind, s)
		return
	}
	checkTight(t, tightCase{kind, s, want.proof.text(), want.claim.steps, want.claim.size, want.proof.shape5(), want.claim.shares(m), want.normal.canon().text()})
}

// What TightOf returns is made of the other functions, as the document says.
func TestTightOfDefined(t *testing.T) {
	t.Parallel()
	for _, s := range tightTexts() {
		for _, kind := range kinds() {
			want, okWant := tightBack(kind, s)
			if d, ok := impl.TightOf(kind, s); d != want || ok != okWant {
				t.Errorf("TightOf %s of %.200q returned %.200q, %v, not %.200q", kind, s, d, ok, want)
			}
		}
	}
}

// tightBack goes back with DeriveBack from TightNormal of the normal term, step by step.
func tightBack(kind string, s string) (string, bool) {
	normal, n, ok := impl.NormalOf(kind, s)
	if !ok {
		return "", false
	}
	way := []string{s}
	for range n {
		next, _ := impl.StepOf(kind, way[len(way)-1])
		way = append(way, next)
	}
	d, ok := impl.TightNormal(kind, normal)
	for i := n - 1; ok && i >= 0; i-- {
		d, ok = impl.DeriveBack(kind, way[i], d)
	}
	return d, ok
}

func TestPromise44(t *testing.T) {
	for _, s := range tightTexts() {
		for _, kind := range kinds() {
			d, ok := impl.TightNormal(kind, s)
			// One term alone has a name too often for a bag.
			if want := impl.NormalIs(kind, s) && (kind == "head" || s != rightApps(199)); ok != want || ok == (d == "") {
				t.Errorf("TightNormal %s of %.80q returned %.80q, %v", kind, s, d, ok)
			}
			if !ok {
				continue
			}
			j, ok := impl.Derive(kind, s, d)
			if !ok || !impl.DeriveTight(kind, s, d) || j.Steps != 0 || j.Size != impl.Measure(kind, s) || (j.Type == "l") != strings.HasPrefix(s, "(lam ") {
				t.Errorf("TightNormal %s of %.80q returned %.80q, which derives %.80q, %v", kind, s, d, shown(j), ok)
			}
		}
	}
}

func TestPromise45(t *testing.T) {
	t.Parallel()
	for _, s := range tightTexts() {
		for _, kind := range kinds() {
			d, ok := impl.TightOf(kind, s)
			normal, n, okNormal := impl.NormalOf(kind, s)
			last, okLast := impl.TightNormal(kind, normal)
			if ok == (d == "") || ok && !(okNormal && okLast && impl.DeriveTight(kind, s, d)) {
				t.Errorf("TightOf %s of %.80q returned %.80q, %v", kind, s, d, ok)
			}
			if !ok {
				continue
			}
			if many, ok := impl.DeriveMany(kind, s, d, n); !ok || many != last {
				t.Errorf("TightOf %s of %.80q is behind %d steps %.80q, %v, not %.80q", kind, s, n, many, ok, last)
			}
		}
	}
}

func TestPromise46(t *testing.T) {
	t.Parallel()
	for _, s := range tightTexts() {
		for _, kind := range kinds() {
			steps, size, ok := impl.TightBounds(kind, s)
			normal, n, okNormal := impl.NormalOf(kind, s)
			if _, okOf := impl.TightOf(kind, s); ok != okOf || ok && !okNormal || !ok && (steps != 0 || size != 0) {
				t.Errorf("TightBounds %s of %.80q returned %d, %d, %v", kind, s, steps, size, ok)
			}
			if !ok {
				continue
			}
			if steps != n || size != impl.Measure(kind, normal) {
				t.Errorf("TightBounds %s of %.80q returned %d and %d; there are %d steps to %.80q", kind, s, steps, size, n, normal)
			}
			next, ok := impl.StepOf(kind, s)
			if !ok {
				continue
			}
			if fewer, same, ok := impl.TightBounds(kind, next); !ok || fewer != steps-1 || same != size {
				t.Errorf("TightBounds %s of %.80q, a step behind %.80q, returned %d, %d, %v", kind, next, s, fewer, same, ok)
			}
		}
	}
}

// equalTerms are some that come to one normal term, some that come to others, and some that come to none.
func equalTerms() []string {
	list := []string{endless, growing, "(app x " + endless + ")", "(app x " + growing + ")", "(app x (app (lam y y) " + endless + "))", "(app (lam x y) " + endless + ")", "", "xy", "(lam x)",
		"y", "x", sames(3, "y"), sames(20, "y"), block(3, "y"), block(50, "y"), rightApps(199), "(app (app (lam x (lam y x)) y) " + growing + ")",
		same, "(lam y y)", "(lam z0 z0)", "(lam x y)", "(app " + same + " " + same + ")", "(app (lam x (app x x)) " + same + ")", "(lam x (app " + same + " x))",
		two, "(lam x (lam f (app x (app x f))))", "(app (lam x x) " + two + ")", "(app " + two + " " + same + ")", "(app " + two + " " + two + ")", "(app (app " + two + " " + two + ") x)",
		"(app (app " + two + " x) y)", "(app x (app x y))", "(app (lam z (app x (app x z))) y)", "(app x (app " + same + " (app x y)))", "(app x (app x (app " + same + " y)))",
		"(lam z (app x (app x y)))", "(lam x (app x (app x y)))", "(lam w (app w (app w y)))", "(lam w (app w (app (lam x x) (app w y))))"}
	for i, m := range tightTrees() {
		if i%150 == 0 {
			list = append(list, m.text())
		}
	}
	return list
}

func TestPromise47(t *testing.T) {
	t.Parallel()
	terms := equalTerms()
	for _, kind := range kinds() {
		normals, tight := map[string]string{}, map[string]bool{}
		for _, s := range terms {
			normals[s], _, _ = impl.NormalOf(kind, s)
			_, tight[s] = impl.TightOf(kind, s)
		}
		equal, got := 0, map[[2]string]bool{}
		for _, a := range terms {
			for _, b := range terms {
				got[[2]string{a, b}] = impl.TightEqual(kind, a, b)
			}
		}
		for pair, holds := range got {
			a, b := pair[0], pair[1]
			if holds && (normals[a] == "" || normals[a] != normals[b]) {
				t.Errorf("TightEqual %s holds for %.80q and %.80q, which come to %.80q and %.80q", kind, a, b, normals[a], normals[b])
			}
			if want := tight[a] && tight[b] && normals[a] == normals[b]; holds != want || got[[2]string{b, a}] != want {
				t.Errorf("TightEqual %s of %.80q and %.80q is %v, and exchanged %v", kind, a, b, holds, got[[2]string{b, a}])
			}
			if holds && a != b {
				equal++
			}
		}
		if equal < 60 {
			t.Errorf("%d pairs of different terms are equal for %s", equal, kind)
		}
	}
}

func TestPromise48(t *testing.T) {
	t.Parallel()
	for _, s := range tightTexts() {
		for _, kind := range kinds() {
			counts, ok := impl.TightShape(kind, s)
			d, okOf := impl.TightOf(kind, s)
			if ok != okOf || !ok && len(counts) != 0 {
				t.Errorf("TightShape %s of %.80q returned %v, %v", kind, s, counts, ok)
			}
			if !ok {
				continue
			}
			steps, size, _ := impl.TightBounds(kind, s)
			if len(counts) != 5 || counts[2] != steps || counts[1] != steps || counts[3]+counts[4] != size || sumOfAll(counts) != impl.DerivationNodes(kind, d) {
				t.Errorf("TightShape %s of %.80q returned %v; there are %d steps, the size %d and %d nodes", kind, s, counts, steps, size, impl.DerivationNodes(kind, d))
			}
		}
	}
}

func sumOfAll(counts []int) int {
	sum := 0
	for _, n := range counts {
		sum += n
	}
	return sum
}

func TestPromise49(t *testing.T) {
	t.Parallel()
	for _, s := range tightTexts() {
		for _, kind := range kinds() {
			shares, ok := impl.TightShares(kind, s)
			d, okOf := impl.TightOf(kind, s)
			if ok != okOf || !ok && len(shares) != 0 {
				t.Errorf("TightShares %s of %.80q returned %v, %v", kind, s, shares, ok)
			}
			if !ok {
				continue
			}
			checkShares(t, kind, s, d, shares)
		}
	}
}

func checkShares(t *testing.T, kind, s, d string, shares []int) {
	t.Helper()
	names := freeOf(t, s)
	if len(shares) != len(names) {
		t.Errorf("TightShares %s of %.80q returned %v for %q", kind, s, shares, names)
		return
	}
	normal, _, _ := impl.NormalOf(kind, s)
	for i, name := range names {
		if shares[i] < 0 || kind == "full" && shares[i] != impl.TermUses(normal, name) || kind == "head" && shares[i] > 1 {
			t.Errorf("TightShares %s of %.80q returned %v; %q stands in %.80q", kind, s, shares, name, normal)
		}
		if bag, ok := impl.DeriveBag(kind, s, d, name); !ok || len(typesOfBag(t, bag)) != shares[i] {
			t.Errorf("TightShares %s of %.80q returned %v; the bag of %q is %q", kind, s, shares, name, bag)
		}
	}
}

func TestPromise50(t *testing.T) {
	fewer, smaller := 0, 0
	for _, s := range tightTexts() {
		steps, size, ok := impl.TightBounds("head", s)
		stepsFull, sizeFull, okFull := impl.TightBounds("full", s)
		if !ok || !okFull {
			continue
		}
		if steps > stepsFull || size > sizeFull {
			t.Errorf("TightBounds of %.80q returned %d and %d for head, %d and %d for full", s, steps, size, stepsFull, sizeFull)
		}
		if steps < stepsFull {
			fewer++
		}
		if size < sizeFull {
			smaller++
		}
	}
	if fewer < 300 || smaller < 300 {
		t.Errorf("for head %d terms have fewer steps, and %d a smaller size", fewer, smaller)
	}
}
