package tests

import (
	"strings"
	"sync"
	"testing"

	"loop.example/intersectiontypes/impl"
)

// approxTexts are the texts that the promises of approximants are tested with: some are none.
var approxTexts = sync.OnceValue(func() []string {
	list := []string{holesOf(198), holesOf(199), holesOf(200), leftApps(198), leftApps(199), rightApps(198), rightApps(199), deepLams(198), deepLams(199), "(app x " + holesOf(198) + ")", "(app " + leftApps(198) + " om)", "(lam x " + holesOf(198) + ")"}
	list = append(list, noApproxes()...)
	for _, m := range approxes() {
		list = append(list, m.text())
	}
	for _, m := range treesOf(2, []string{"om", "x", "z0"}) {
		list = append(list, m.text())
	}
	return list
})

// approxPairs are pairs of texts, of which some are below each other, and some are no approximants.
func approxPairs() [][2]string {
	list := approxTexts()
	var pairs [][2]string
	for i, a := range list {
		for j := i; j < min(i+5, len(list)); j++ {
			pairs = append(pairs, [2]string{a, list[j]}, [2]string{list[j], a})
		}
		pairs = append(pairs, [2]string{a, list[i*7%len(list)]}, [2]string{a, list[i*31%len(list)]}, [2]string{"om", a}, [2]string{"(app x om)", a})
	}
	for _, a := range list[len(list)-150:] {
		for _, b := range list[len(list)-150:] {
			pairs = append(pairs, [2]string{a, b})
		}
	}
	return pairs
}

func TestPromise59(t *testing.T) {
	valid, whole := 0, 0
	for _, s := range approxTexts() {
		if !impl.ApproxValid(s) {
			if impl.ApproxBelow(s, s) || impl.ApproxBelow("om", s) {
				t.Errorf("%.80q is no approximant, and ApproxBelow holds", s)
			}
			continue
		}
		valid++
		if !impl.ApproxBelow("om", s) || !impl.ApproxBelow(s, s) {
			t.Errorf("ApproxBelow of om and %.80q, or of this and itself, does not hold", s)
		}
		without := !strings.Contains(s, "om")
		if impl.TermValid(s) != without || without && !impl.NormalIs("full", s) {
			t.Errorf("%.80q is an approximant, a term: %v, and a normal one: %v", s, impl.TermValid(s), impl.NormalIs("full", s))
		}
		if without {
			whole++
		}
	}
	if valid < 600 || whole < 200 || valid-whole < 300 {
		t.Errorf("there are %d approximants, %d without om", valid, whole)
	}
	for _, s := range tightTexts() {
		if impl.ApproxValid(s) != impl.NormalIs("full", s) {
			t.Errorf("the term %.80q is an approximant: %v", s, impl.ApproxValid(s))
		}
	}
}

func TestPromise60(t *testing.T) {
	below, alike := 0, 0
	for _, pair := range approxPairs() {
		a, b := pair[0], pair[1]
		if !impl.ApproxBelow(a, b) {
			continue
		}
		below++
		meet, ok := impl.ApproxMeet(a, b)
		if !ok || !isAlike(meet, a) {
			t.Errorf("%.80q is below %.80q, and their meet is %.80q, %v", a, b, meet, ok)
		}
		back := impl.ApproxBelow(b, a)
		if back != isAlike(a, b) {
			t.Errorf("%.80q is below %.80q, and the other way round: %v", a, b, back)
		}
		if back && a != b {
			alike++
		}
	}
	if below < 2500 || alike < 200 {
		t.Errorf("ApproxBelow holds for %d pairs, and for %d that are alike", below, alike)
	}
}

// isAlike has a free name for om, which stands in no text.
func isAlike(a, b string) bool {
	return impl.TermAlike(strings.ReplaceAll(a, "om", "q999"), strings.ReplaceAll(b, "om", "q999"))
}

func TestPromise61(t *testing.T) {
	behind, less, normal := 0, 0, 0
	for _, s := range machineTexts() {
		a, ok := impl.ApproxOf(s)
		if ok != impl.TermValid(s) || !ok && a != "" {
			t.Errorf("ApproxOf of %.80q returned %.80q, %v", s, a, ok)
		}
		if !ok {
			continue
		}
		if !impl.ApproxValid(a) {
			t.Errorf("ApproxOf of %.80q returned %.80q", s, a)
		}
		if impl.NormalIs("full", s) {
			normal++
			if a != canonOf(t, s) {
				t.Errorf("ApproxOf of the normal term %.80q returned %.80q", s, a)
			}
		}
		next, ok := impl.StepOf("full", s)
		if !ok {
			continue
		}
		behind++
		b, okNext := impl.ApproxOf(next)
		if !okNext || !impl.ApproxBelow(a, b) {
			t.Errorf("ApproxOf of %.80q returned %.80q, and behind a full step %.80q", s, a, b)
		}
		if a != b {
			less++
		}
	}
	if behind < 2000 || less < 500 || normal < 1000 {
		t.Errorf("%d terms have a full step, %d a greater approximant behind it, and %d are normal", behind, less, normal)
	}
}

// treesUpTo has the trees of a term up to each depth; those that are too large are empty.
func treesUpTo(t *testing.T, s string) []string {
	t.Helper()
	var list []string
	for depth := 0; depth <= 6; depth++ {
		tree, ok := impl.ApproxTree(s, depth)
		if ok != impl.ApproxValid(tree) || !ok && tree != "" {
			t.Errorf("ApproxTree of %.80q up to %d returned %.80q, %v", s, depth, tree, ok)
		}
		list = append(list, tree)
	}
	return list
}

func TestPromise62(t *testing.T) {
	t.Parallel()
	grow, tooLarge, behind := 0, 0, 0
	for _, s := range treeTexts() {
		list := treesUpTo(t, s)
		if list[0] != "om" {
			t.Errorf("ApproxTree of %.80q up to 0 returned %.80q", s, list[0])
		}
		for i, tree := range list[1:] {
			if tree == "" {
				tooLarge++
			} else if list[i] == "" || !impl.ApproxBelow(list[i], tree) {
				t.Errorf("the tree of %.80q up to %d is %.80q, and %.80q up to one more", s, i, list[i], tree)
			} else if list[i] != tree {
				grow++
			}
		}
		next, ok := impl.StepOf("head", s)
		if !ok || isJustTooLong(s) {
			continue
		}
		behind++
		for i, tree := range treesUpTo(t, next) {
			if tree != list[i] {
				t.Errorf("the tree of %.80q up to %d is %.80q, and %.80q behind a head step", s, i, list[i], tree)
			}
		}
	}
	if grow < 3000 || tooLarge < 10 || behind < 1000 {
		t.Errorf("%d trees are greater than those of a depth less, %d too large, and %d terms have a head step", grow, tooLarge, behind)
	}
}

// isJustTooLong tells of a term that it needs one head step more than StepsMax. Behind a step its tree is another one,
// as the section of the tree counts the steps: the promise cannot hold for it.
func isJustTooLong(s string) bool {
	next, _ := impl.StepOf("head", s)
	_, n, ok := impl.NormalOf("head", next)
	return ok && n == impl.StepsMax
}

// treeTexts have terms whose trees grow for ever, and fast, besides the others. All of them are terms.
var treeTexts = sync.OnceValue(func() []string {
	var list []string
	for _, w := range []string{"(app f (app x x))", "(app (app f (app x x)) (app x x))", "(app (app (app f (app x x)) (app x x)) (app x x))", "(lam f (app f (app x x)))", "(app f (lam f (app x x)))", "(app (app f (app x x)) z0)", "(lam z0 (app z0 (lam z1 (app z1 (app x x)))))"} {
		s := "(app (lam x " + w + ") (lam x " + w + "))"
		list = append(list, s, "(lam f "+s+")", "(app "+same+" "+s+")", "(app (lam v (app v v)) (lam x "+w+"))", "(app (lam f "+s+") z1)", "(app (app z1 "+s+") "+s+")", "(app (lam f "+s+") "+two+")")
	}
	list = append(list, "(app x "+waits(impl.StepsMax)+")", "(app x "+waits(impl.StepsMax+1)+")", "(app (app x "+waits(190)+") (app y "+waits(190)+"))")
	for _, s := range machineTexts() {
		if impl.TermValid(s) {
			list = append(list, s)
		}
	}
	return list
})

func TestPromise63(t *testing.T) {
	t.Parallel()
	om, whole, later := 0, 0, 0
	for _, s := range treeTexts() {
		_, _, ok := impl.NormalOf("head", s)
		full, _, okFull := impl.NormalOf("full", s)
		list := treesUpTo(t, s)
		for depth, tree := range list {
			if depth == 0 || tree == "" {
				continue
			}
			if (tree == "om") == ok {
				t.Errorf("the tree of %.80q up to %d is %.80q, and NormalOf head succeeds: %v", s, depth, tree, ok)
			}
			if tree == "om" {
				om++
			}
			if strings.Contains(tree, "om") {
				continue
			}
			whole++
			if okFull && tree != full {
				t.Errorf("the tree of %.80q up to %d is %.80q, and its normal term %.80q", s, depth, tree, full)
			}
			if list[depth-1] != tree && depth > 1 {
				later++
			}
		}
	}
	if om < 100 || whole < 10000 || later < 500 {
		t.Errorf("%d trees are om, %d without om, and %d of these for the first time", om, whole, later)
	}
}

func TestPromise64(t *testing.T) {
	none, many, applied := 0, 0, 0
	for _, s := range approxTexts() {
		n := impl.ApproxHoles(s)
		if (n == -1) == impl.ApproxValid(s) || n < -1 {
			t.Errorf("ApproxHoles of %.80q returned %d", s, n)
		}
		if _, ok := impl.ApproxTerm(s); ok != (n == 0) {
			t.Errorf("ApproxHoles of %.80q returned %d, and ApproxTerm succeeds: %v", s, n, ok)
		}
		if n == -1 {
			continue
		}
		if n != strings.Count(s, "om") {
			t.Errorf("ApproxHoles of %.80q returned %d", s, n)
		}
		if n == 0 {
			none++
		} else if n > 2 {
			many++
		}
		if more := "(app " + s + " om)"; impl.ApproxValid(more) {
			applied++
			if m := impl.ApproxHoles(more); m != n+1 {
				t.Errorf("ApproxHoles of %.80q returned %d, and of this applied to om %d", s, n, m)
			}
		}
	}
	if none < 200 || many < 50 || applied < 200 {
		t.Errorf("%d approximants have no om, %d more than two, and %d can be applied", none, many, applied)
	}
}

func TestPromise65(t *testing.T) {
	meets, fail, less := 0, 0, 0
	for _, pair := range approxPairs() {
		a, b := pair[0], pair[1]
		meet, ok := impl.ApproxMeet(a, b)
		other, okOther := impl.ApproxMeet(b, a)
		if ok != (impl.ApproxValid(a) && impl.ApproxValid(b)) || ok != okOther || meet != other {
			t.Errorf("ApproxMeet of %.80q and %.80q returned %.80q, %v, and exchanged %.80q, %v", a, b, meet, ok, other, okOther)
		}
		if !ok {
			fail++
			continue
		}
		meets++
		if !impl.ApproxBelow(meet, a) || !impl.ApproxBelow(meet, b) {
			t.Errorf("ApproxMeet of %.80q and %.80q returned %.80q, which is not below both", a, b, meet)
		}
		if meet != "om" && !isAlike(meet, a) && !isAlike(meet, b) {
			less++
		}
		if hole, okHole := impl.ApproxMeet(a, "om"); !okHole || hole != "om" {
			t.Errorf("ApproxMeet of %.80q and om returned %.80q, %v", a, hole, okHole)
		}
	}
	if meets < 5000 || fail < 500 || less < 500 {
		t.Errorf("%d pairs have a meet, %d none, and %d one that is neither of both", meets, fail, less)
	}
}

func TestPromise66(t *testing.T) {
	found := 0
	for _, s := range append(approxTexts(), machineTexts()...) {
		term, ok := impl.ApproxTerm(s)
		if !ok {
			if term != "" {
				t.Errorf("ApproxTerm of %.80q fails and returned %.80q", s, term)
			}
			continue
		}
		found++
		direct, okDirect := impl.ApproxOf(term)
		if !impl.NormalIs("full", term) || !okDirect || direct != term || !impl.TermAlike(term, s) || term != canonOf(t, s) {
			t.Errorf("ApproxTerm of %.80q returned %.80q, and its direct approximant is %.80q", s, term, direct)
		}
	}
	if found < 500 {
		t.Errorf("%d texts are approximants without om", found)
	}
}

func TestPromise67(t *testing.T) {
	equal, trees := 0, 0
	check := func(a, b string) {
		first, okFirst := impl.ApproxTree(a, 3)
		second, okSecond := impl.ApproxTree(b, 3)
		if a == b || !impl.TermEqual(a, b) {
			return
		}
		equal++
		if !okFirst || !okSecond {
			return
		}
		trees++
		if first != second {
			t.Errorf("%.80q and %.80q are equal, and their trees are %.80q and %.80q", a, b, first, second)
		}
	}
	terms := equalTerms()
	for i, a := range terms {
		for _, b := range terms[:i] {
			check(a, b)
		}
	}
	for i, s := range tightTexts() {
		if next, n, ok := impl.StepMany("full", s, i%5+1); ok && n > 0 {
			check(s, next)
		}
		if normal, _, ok := impl.NormalOf("full", s); ok {
			check(s, normal)
		}
		if i%4 == 0 {
			check(s, "(app (lam x "+s+") y)")
			check(s, "(app "+same+" "+s+")")
		}
	}
	if equal < 4000 || trees < 4000 {
		t.Errorf("%d pairs are equal, and %d of them have trees", equal, trees)
	}
}
