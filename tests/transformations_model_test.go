package tests

import (
	"math/rand"
	"slices"
	"strings"
	"sync"

	"loop.example/intersectiontypes/impl"
)

// Here a redex is found by its path, a name by itself, since all bound ones are made different first,
// and each derivation is made anew. The types of nodes are those that they claim for the term alone.

// redexPath leads to the redex that the step of a kind replaces.
func (t *tree) redexPath(kind string) (string, bool) {
	if t.isRedex() {
		return "", true
	}
	if t.a != nil {
		if path, ok := t.a.redexPath(kind); ok {
			return "a" + path, true
		}
	}
	if t.b != nil && kind == "full" {
		if path, ok := t.b.redexPath(kind); ok {
			return "b" + path, true
		}
	}
	return "", false
}

func (t *tree) at(path string) *tree {
	for _, turn := range path {
		if turn == 'a' {
			t = t.a
		} else {
			t = t.b
		}
	}
	return t
}

// changedAt has all nodes changed that stand for the part of a tree to which a path leads.
func (d *proof) changedAt(path string, change func(*proof) *proof) *proof {
	if path == "" {
		return change(d)
	}
	other := &proof{word: d.word, shape: d.shape}
	for i, e := range d.below {
		if (i == 0) == (path[0] == 'a') {
			e = e.changedAt(path[1:], change)
		}
		other.below = append(other.below, e)
	}
	return other
}

// changedFor has all nodes changed, in the order of the text, that stand for a name in a tree.
func (d *proof) changedFor(t *tree, name string, change func(*proof) *proof) *proof {
	if t.word == "" {
		if t.name == name {
			return change(d)
		}
		return d
	}
	other := &proof{word: d.word, shape: d.shape}
	for i, e := range d.below {
		part := t.a
		if i > 0 {
			part = t.b
		}
		other.below = append(other.below, e.changedFor(part, name, change))
	}
	return other
}

// stepped is what a derivation for a tree is behind the step of a kind. There must be such a step.
func (d *proof) stepped(kind string, t *tree) *proof {
	t = t.apart()
	path, _ := t.redexPath(kind)
	redex := t.at(path)
	return d.changedAt(path, func(node *proof) *proof {
		unused := slices.Clone(node.below[1:])
		return node.below[0].below[0].changedFor(redex.a.a, redex.a.name, func(use *proof) *proof {
			at := slices.IndexFunc(unused, func(e *proof) bool { return e.claim(redex.b).to.text() == use.shape.text() })
			e := unused[at]
			unused = slices.Delete(unused, at, at+1)
			return e
		})
	})
}

// back is what a derivation for what is behind the step of a kind is for the tree itself.
func (d *proof) back(kind string, t *tree) *proof {
	t = t.apart()
	path, _ := t.redexPath(kind)
	redex := t.at(path)
	return d.changedAt(path, func(node *proof) *proof {
		var shapes []*shape
		of := map[string][]*proof{}
		within := node.changedFor(redex.a.a, redex.a.name, func(e *proof) *proof {
			a := e.claim(redex.b).to
			shapes = append(shapes, a)
			of[a.text()] = append(of[a.text()], e)
			return ax(a)
		})
		below := []*proof{proofOf("fun", within)}
		for _, text := range sortedTexts(shapes) {
			below = append(below, of[text][0])
			of[text] = of[text][1:]
		}
		return proofOf("app", below...)
	})
}

// isText tells whether the text of a derivation keeps to the limits.
func (d *proof) isText() bool {
	return hasRoom(d.text(), len(d.nodes()))
}

// wantStep is the text of DeriveStep, empty if it fails.
func wantStep(kind string, t *tree, d *proof) string {
	if d.claim(t) == nil || t.step(kind) == nil {
		return ""
	}
	if next := d.stepped(kind, t); next.isText() {
		return next.text()
	}
	return ""
}

// wantBack is the text of DeriveBack, empty if it fails.
func wantBack(kind string, t *tree, d *proof) string {
	next := t.step(kind)
	if next == nil || d.claim(next) == nil {
		return ""
	}
	before := d.back(kind, t)
	if before.isText() && before.claim(t) != nil {
		return before.text()
	}
	return ""
}

// moving is a derivation of a kind for the tree, or, if it is behind, for what is behind the step of the tree.
type moving struct {
	deriving
	behind bool
}

// movings are derivations for trees that have a step, or for what is behind it.
var movings = sync.OnceValue(func() []moving {
	var list []moving
	for _, c := range derivings() {
		if !c.tree.isNormal(c.kind) {
			list = append(list, moving{c, false})
		}
	}
	for _, kind := range kinds() {
		m := &maker{kind: kind, r: rand.New(rand.NewSource(6)), most: 8}
		for _, t := range deriveTrees() {
			list = append(list, m.behind(t)...)
		}
		for _, redex := range someRedexes() {
			for _, t := range placesOf(redex) {
				list = append(append(list, m.ahead(t)...), m.behind(t)...)
			}
		}
	}
	return list
})

func (m *maker) ahead(t *tree) []moving {
	var list []moving
	for _, d := range m.proofs(t, nil, nil) {
		if !t.isNormal(m.kind) {
			list = append(list, moving{deriving{m.kind, t, d}, false})
		}
	}
	return list
}

func (m *maker) behind(t *tree) []moving {
	next := t.step(m.kind)
	if next == nil {
		return nil
	}
	var list []moving
	for _, d := range m.proofs(next, nil, nil) {
		list = append(list, moving{deriving{m.kind, t, d}, true})
	}
	return list
}

// someRedexes use their names in each way: not at all, once and more often, beside others and within lams.
func someRedexes() []*tree {
	x, y, z, w := leaf("x"), leaf("y"), leaf("z"), leaf("w")
	var list []*tree
	for _, within := range []*tree{
		y, x, app(y, x), app(x, x), app(app(y, x), x), app(app(app(y, x), x), x), app(y, app(y, x)), app(x, app(x, x)), app(y, app(app(w, x), x)),
		lam("y", x), lam("y", app(x, y)), lam("x", x), app(x, lam("x", x)), app(lam("x", x), x), app(y, lam("x", app(x, z))), lam("y", lam("z", app(app(x, y), z))),
		app(app(y, lam("w", x)), lam("z", app(z, x))),
	} {
		for _, put := range []*tree{y, app(y, z), lam("y", y), lam("x", app(x, z)), app(app(y, z), z), lam("y", lam("z", app(y, w)))} {
			list = append(list, app(lam("x", within), put))
		}
	}
	return list
}

// placesOf has a redex as the whole tree, within lams, as a first term, and in second terms.
func placesOf(t *tree) []*tree {
	y := leaf("y")
	return []*tree{
		t, lam("z", t), lam("w", lam("y", t)), app(t, y), lam("z", app(app(t, leaf("z")), y)),
		app(y, t), app(y, app(y, t)), app(app(y, leaf("z")), lam("w", t)), app(app(y, t), leaf("w")), lam("y", app(leaf("x"), app(y, t))),
	}
}

// nest is how many parentheses of a text are within each other.
func nest(s string) int {
	now, deepest := 0, 0
	for _, sign := range s {
		now += strings.Count("(", string(sign)) - strings.Count(")", string(sign))
		deepest = max(deepest, now)
	}
	return deepest
}

// judgementOf fails with an empty one.
func judgementOf(kind, s, d string) impl.Judgement {
	j, _ := impl.Derive(kind, s, d)
	return j
}
