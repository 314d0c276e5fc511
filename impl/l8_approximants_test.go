package impl

import (
	"strings"
	"testing"
)

func holesIn(t *term) []*term {
	var list []*term
	for _, here := range t.contexts() {
		if here.isHole() {
			list = append(list, here)
		}
	}
	return list
}

// Nodes are shared where nothing tells them apart. No result shows this, so it is tested here.

func TestHolesAreShared(t *testing.T) {
	read, ok := readApprox("(app (app x om) (app y (app (app x om) om)))")
	source, okTerm := readTerm("(app (app x (app (lam y (app y y)) (lam y (app y y)))) (app y (app (lam x x) z)))")
	if !ok || !okTerm {
		t.Fatal("a text is not read")
	}
	g := &grower{om: newHole()}
	for _, a := range []*term{read, source.direct(newHole()), g.tree(source, 2)} {
		holes := holesIn(a)
		if len(holes) < 2 {
			t.Errorf("%s has %d om", a.text(nil), len(holes))
		}
		for _, om := range holes {
			if om != holes[0] {
				t.Errorf("the om of %s are several nodes", a.text(nil))
			}
		}
	}
}

func TestMeetSharesNodes(t *testing.T) {
	for _, c := range []struct {
		a, b string
		all  bool
	}{
		{"om", "x", true},
		{"(app x om)", "(app x y)", true},
		{"(lam x (app x om))", "(lam y (app y y))", true},
		{"(app (app x (app y z)) a)", "(app (app x (app y z)) b)", false},
	} {
		a, _ := readApprox(c.a)
		b, _ := readApprox(c.b)
		both := meet(a, b)
		if (both == a) != c.all || both != a && both.left != a.left {
			t.Errorf("the meet of %s and %s shares too little or too much with the first one", c.a, c.b)
		}
	}
}

// A tree that is too large stops growing: without this it would have some thousand nodes.
func TestTreeStops(t *testing.T) {
	for _, second := range []string{"(app x x)", "(lam v (lam w (app x x)))"} {
		w := "(lam x " + strings.Repeat("(app ", 4) + "y" + strings.Repeat(" "+second+")", 4) + ")"
		source, ok := readTerm("(app " + w + " " + w + ")")
		if !ok {
			t.Fatal("the text is no term")
		}
		g := &grower{om: newHole()}
		all := g.tree(source, depthMax)
		if n := all.countAtoms(); n != g.atoms || n <= TermMax || n > TermMax+100 {
			t.Errorf("the tree has %d atoms, of which %d are counted", n, g.atoms)
		}
	}
}
