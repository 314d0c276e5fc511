package tests

import (
	"slices"
	"testing"

	"loop.example/intersectiontypes/impl"
)

// The derivations are of redexes that stand for no node, for one and for several,
// and whose names are used by none, one and several, of equal types and of others.
func TestMovingsAreMany(t *testing.T) {
	t.Parallel()
	redexes, uses, places := map[int]int{}, map[int]int{}, map[string]int{}
	equal, different, unsorted, behind := 0, 0, 0, 0
	for _, c := range movings() {
		if c.behind {
			behind++
			continue
		}
		apart := c.tree.apart()
		path, _ := apart.redexPath(c.kind)
		places[lastTurn(apart, path)]++
		redex, nodes := apart.at(path), 0
		c.proof.changedAt(path, func(node *proof) *proof {
			nodes++
			var types []string
			node.below[0].below[0].changedFor(redex.a.a, redex.a.name, func(use *proof) *proof {
				types = append(types, use.shape.text())
				return use
			})
			uses[min(len(types), 3)]++
			sorted := slices.Sorted(slices.Values(types))
			if kinds := len(slices.Compact(slices.Clone(sorted))); kinds < len(types) {
				equal++
			} else if len(types) > 1 {
				different++
			}
			if !slices.Equal(sorted, types) {
				unsorted++
			}
			return node
		})
		redexes[min(nodes, 2)]++
	}
	for n := range 3 {
		if redexes[n] < 300 {
			t.Errorf("there are %d derivations in which the redex stands for %d nodes", redexes[n], n)
		}
	}
	for n := range 4 {
		if uses[n] < 300 {
			t.Errorf("there are %d redexes whose name is used by %d nodes", uses[n], n)
		}
	}
	for _, place := range []string{"whole", "lam", "first", "second"} {
		if places[place] < 300 {
			t.Errorf("there are %d redexes at the place %s", places[place], place)
		}
	}
	if equal < 300 || different < 300 || unsorted < 300 || behind < 3000 {
		t.Errorf("there are %d, %d and %d names used with equal types, others, and in another order, and %d derivations behind steps", equal, different, unsorted, behind)
	}
}

func lastTurn(t *tree, path string) string {
	if path == "" {
		return "whole"
	}
	last := len(path) - 1
	switch {
	case t.at(path[:last]).word == "lam":
		return "lam"
	case path[last] == 'a':
		return "first"
	}
	return "second"
}

// Each function makes of a derivation what the model does.
func TestMoveModel(t *testing.T) {
	t.Parallel()
	for _, c := range movings() {
		s, d := c.tree.text(), c.proof.text()
		if c.behind {
			checkBackModel(t, c.kind, c.tree, c.proof)
			continue
		}
		checkStepOfModel(t, c.kind, c.tree, c.proof)
		next := wantStep(c.kind, c.tree, c.proof)
		if got, ok := impl.DeriveBack(c.kind, s, next); !ok || got != d {
			t.Fatalf("DeriveBack %s for %q of %q, behind %q, returned %q, %v", c.kind, s, next, d, got, ok)
		}
	}
}

func checkStepOfModel(t *testing.T, kind string, m *tree, d *proof) {
	t.Helper()
	s, text := m.text(), d.text()
	want := ""
	if d.isOf(kind) {
		want = wantStep(kind, m, d)
	}
	if got, ok := impl.DeriveStep(kind, s, text); got != want || ok != (want != "") {
		t.Fatalf("DeriveStep %s for %q of %q returned %q, %v, not %q", kind, s, text, got, ok, want)
	}
	moved := 0
	if want != "" {
		moved = d.claim(m).steps - d.stepped(kind, m).claim(m.step(kind)).steps
	}
	if n, ok := impl.DeriveMoved(kind, s, text); n != moved || ok != (want != "") {
		t.Fatalf("DeriveMoved %s for %q of %q returned %d, %v, not %d", kind, s, text, n, ok, moved)
	}
}

func checkBackModel(t *testing.T, kind string, m *tree, d *proof) {
	t.Helper()
	s, text := m.text(), d.text()
	want := ""
	if d.isOf(kind) {
		want = wantBack(kind, m, d)
	}
	if got, ok := impl.DeriveBack(kind, s, text); got != want || ok != (want != "") {
		t.Fatalf("DeriveBack %s for %q of %q returned %q, %v, not %q", kind, s, text, got, ok, want)
	}
}

// Most derivations with a changed node are none, or derive nothing.
func TestMoveModelChanged(t *testing.T) {
	t.Parallel()
	for i, c := range movings() {
		if i%9 != 0 {
			continue
		}
		for k, d := range changedProofs(c.proof) {
			if (i+k)%11 == 0 {
				checkStepOfModel(t, c.kind, c.tree, d)
				checkBackModel(t, c.kind, c.tree, d)
			}
		}
	}
}

// All small derivations for all small terms, ahead of the step and behind it.
func TestMoveModelSmall(t *testing.T) {
	var trees []*tree
	for size := 2; size <= 3; size++ {
		trees = append(trees, treesOf(size, []string{"x", "y"})...)
	}
	n := &shape{letter: "n"}
	shapes := []*shape{n, {letter: "a"}, {to: n}, {from: []*shape{n}, to: n}}
	for _, kind := range kinds() {
		moves := slices.DeleteFunc(slices.Clone(trees), func(m *tree) bool { return m.isNormal(kind) })
		for nodes := 1; nodes <= 4; nodes++ {
			for i, d := range proofsOfNodes(nodes, kind, shapes) {
				for k, m := range moves {
					if nodes == 4 && (i+k)%11 != 0 {
						continue
					}
					checkStepOfModel(t, kind, m, d)
					checkBackModel(t, kind, m, d)
				}
			}
		}
	}
}

// DeriveMany does one step after the other.
func TestManyModel(t *testing.T) {
	for i, c := range movings() {
		if c.behind || i%5 != 0 {
			continue
		}
		s, text := c.tree.text(), c.proof.text()
		now, m := c.proof, c.tree
		for n := range 6 {
			checkMany(t, c.kind, s, text, n, now.text())
			if next := m.step(c.kind); next != nil {
				now, m = now.stepped(c.kind, m), next
			}
			if !now.isText() {
				break
			}
		}
	}
}

// movePairs are the derivations and terms that the promises are tested with: many of them derive nothing,
// or only for what is behind the step of the term.
func movePairs() []derivesTexts {
	list := slices.Clone(derivationPairs())
	for _, c := range movings() {
		list = append(list, derivesTexts{c.kind, c.tree.text(), c.proof.text()})
	}
	for _, kind := range kinds() {
		s, d := threeApps(impl.NodesMax)
		list = append(list, derivesTexts{kind, "(app (lam v " + s + ") z)", d})
		s, d = threeApps(impl.NodesMax - 2)
		list = append(list, derivesTexts{kind, "(app (lam v " + s + ") z)", d}, derivesTexts{kind, "(app (lam v " + s + ") z)", "(app (fun " + d + "))"})
		s, d = deepTerm(188, 53)
		list = append(list, derivesTexts{kind, "(app (lam v " + s + ") z)", d}, derivesTexts{kind, "(app (lam v " + s + ") z)", "(app (fun " + d + "))"})
		for _, term := range []string{"(app x " + endless + ")", "(app x " + growing + ")", "(app (lam x y) " + growing + ")"} {
			for _, d := range []string{"(app (ax (> (m) a)))", "(app (fun (ax n)))", "(ax n)"} {
				list = append(list, derivesTexts{kind, term, d})
			}
		}
		s, d = tooLong(66)
		list = append(list, derivesTexts{kind, s, d})
	}
	return list
}

// bagsOfJudgement are the bags by their names: a step can change the order of names.
func bagsOfJudgement(j impl.Judgement) string {
	var list []string
	for i, name := range j.Names {
		list = append(list, name+" "+j.Bags[i])
	}
	return bagTextOf(slices.Sorted(slices.Values(list)))
}

// areKept tells whether two judgements have the same bags, type and size.
func areKept(a, b impl.Judgement) bool {
	return bagsOfJudgement(a) == bagsOfJudgement(b) && a.Type == b.Type && a.Size == b.Size
}

func TestPromise39(t *testing.T) {
	t.Parallel()
	for _, c := range movePairs() {
		next, ok := impl.DeriveStep(c.kind, c.s, c.d)
		j, okDerive := impl.Derive(c.kind, c.s, c.d)
		behind, okStep := impl.StepOf(c.kind, c.s)
		if ok != (okDerive && okStep) || ok == (next == "") {
			t.Errorf("DeriveStep %s for %.80q of %.80q returned %.80q, %v", c.kind, c.s, c.d, next, ok)
		}
		if !ok {
			continue
		}
		other, ok := impl.Derive(c.kind, behind, next)
		if !ok || !areKept(j, other) || other.Steps > j.Steps || impl.DerivationNodes(c.kind, next) > impl.DerivationNodes(c.kind, c.d) {
			t.Errorf("DeriveStep %s for %.80q of %.80q returned %.80q, which derives %q, not %q", c.kind, c.s, c.d, next, shown(other), shown(j))
		}
		if impl.DeriveTight(c.kind, c.s, c.d) && (other.Steps != j.Steps-1 || !impl.DeriveTight(c.kind, behind, next)) {
			t.Errorf("the tight derivation %.80q for %.80q has %d steps, and %d behind one of %s", c.d, c.s, j.Steps, other.Steps, c.kind)
		}
	}
}

func TestPromise40(t *testing.T) {
	t.Parallel()
	for _, c := range movePairs() {
		before, ok := impl.DeriveBack(c.kind, c.s, c.d)
		behind, okStep := impl.StepOf(c.kind, c.s)
		j, okDerive := impl.Derive(c.kind, behind, c.d)
		if ok && !(okStep && okDerive) || ok == (before == "") {
			t.Errorf("DeriveBack %s for %.80q of %.80q returned %.80q, %v", c.kind, c.s, c.d, before, ok)
		}
		if !ok {
			continue
		}
		if other, ok := impl.Derive(c.kind, c.s, before); !ok || !areKept(j, other) {
			t.Errorf("DeriveBack %s for %.80q of %.80q returned %.80q, which derives %q, not %q", c.kind, c.s, c.d, before, shown(other), shown(j))
		}
		if next, ok := impl.DeriveStep(c.kind, c.s, before); !ok || next != c.d {
			t.Errorf("DeriveStep %s for %.80q of what is back from %.80q returned %.80q, %v", c.kind, c.s, c.d, next, ok)
		}
	}
}

func TestPromise41(t *testing.T) {
	t.Parallel()
	for _, c := range movePairs() {
		next, ok := impl.DeriveStep(c.kind, c.s, c.d)
		if !ok {
			continue
		}
		before, ok := impl.DeriveBack(c.kind, c.s, next)
		if !ok || impl.DerivationNodes(c.kind, before) != impl.DerivationNodes(c.kind, c.d) {
			t.Errorf("DeriveBack %s for %.80q of %.80q, behind %.80q, returned %.80q, %v", c.kind, c.s, next, c.d, before, ok)
		}
		if again, ok := impl.DeriveStep(c.kind, c.s, before); !ok || again != next {
			t.Errorf("DeriveStep %s for %.80q of %.80q returned %.80q, %v, not %.80q", c.kind, c.s, before, again, ok, next)
		}
	}
}

func TestPromise42(t *testing.T) {
	t.Parallel()
	for i, c := range movePairs() {
		j, okDerive := impl.Derive(c.kind, c.s, c.d)
		if none, ok := impl.DeriveMany(c.kind, c.s, c.d, 0); ok != okDerive || ok && none != c.d || !ok && none != "" {
			t.Errorf("DeriveMany %s for %.80q of %.80q and 0 returned %.80q, %v", c.kind, c.s, c.d, none, ok)
		}
		for _, n := range []int{1, 2, 5, impl.StepsMax} {
			if n > 1 && i%4 != 0 {
				continue
			}
			many, ok := impl.DeriveMany(c.kind, c.s, c.d, n)
			if ok && !okDerive {
				t.Errorf("DeriveMany %s for %.80q of %.80q and %d returned %.80q", c.kind, c.s, c.d, n, many)
			}
			if !ok {
				continue
			}
			last, _, okSteps := impl.StepMany(c.kind, c.s, n)
			other, ok := impl.Derive(c.kind, last, many)
			if !okSteps || !ok || !areKept(j, other) {
				t.Errorf("DeriveMany %s for %.80q of %.80q and %d returned %.80q, which derives %q, not %q", c.kind, c.s, c.d, n, many, shown(other), shown(j))
			}
		}
	}
}

func TestPromise43(t *testing.T) {
	t.Parallel()
	several := 0
	for _, c := range movePairs() {
		n, ok := impl.DeriveMoved(c.kind, c.s, c.d)
		next, okStep := impl.DeriveStep(c.kind, c.s, c.d)
		if ok != okStep || n < 0 || !ok && n != 0 {
			t.Errorf("DeriveMoved %s for %.80q of %.80q returned %d, %v", c.kind, c.s, c.d, n, ok)
		}
		if !ok {
			continue
		}
		behind, _ := impl.StepOf(c.kind, c.s)
		if n != judgementOf(c.kind, c.s, c.d).Steps-judgementOf(c.kind, behind, next).Steps {
			t.Errorf("DeriveMoved %s for %.80q of %.80q returned %d", c.kind, c.s, c.d, n)
		}
		if n != 1 && (c.kind == "head" || impl.DeriveTight(c.kind, c.s, c.d)) {
			t.Errorf("DeriveMoved %s for %.80q of %.80q, tight or for head, returned %d", c.kind, c.s, c.d, n)
		}
		if n > 1 {
			several++
		}
	}
	if several < 300 {
		t.Errorf("in %d derivations the redex stands for several nodes", several)
	}
}
