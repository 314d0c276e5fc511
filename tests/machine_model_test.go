package tests

import (
	"slices"
	"strconv"
	"strings"
	"sync"
	"testing"

	"loop.example/intersectiontypes/impl"
)

// Here the machine has the names as they are written: an environment is looked through from its end on.

// shut is a tree with its environment.
type shut struct {
	tree  *tree
	names []given
}

// given is a name with a closure, or with nothing: then it is one of the opens.
type given struct {
	name string
	shut *shut
	open int
}

func (c *shut) find(name string) (given, bool) {
	for _, g := range slices.Backward(c.names) {
		if g.name == name {
			return g, true
		}
	}
	return given{}, false
}

func (c *shut) with(t *tree, g ...given) *shut {
	return &shut{t, append(slices.Clone(c.names), g...)}
}

// engine is the machine at its end.
type engine struct {
	now   *shut
	stack []*shut
	trace string
}

// engineOf returns nil if more than MovesMax moves are needed.
func engineOf(t *tree) *engine {
	m := &engine{now: &shut{tree: t}}
	for len(m.trace) <= impl.MovesMax {
		if !m.move() {
			return m
		}
	}
	return nil
}

func (m *engine) move() bool {
	t := m.now.tree
	top := len(m.stack) - 1
	switch {
	case t.word == "app":
		m.stack = append(m.stack, m.now.with(t.b))
		m.now = m.now.with(t.a)
		m.trace += "p"
	case t.word == "lam" && top >= 0:
		m.now = m.now.with(t.a, given{name: t.name, shut: m.stack[top]})
		m.stack = m.stack[:top]
		m.trace += "t"
	case t.word == "lam":
		m.now = m.now.with(t.a, given{name: t.name, open: strings.Count(m.trace, "o")})
		m.trace += "o"
	default:
		g, _ := m.now.find(t.name)
		if g.shut == nil {
			return false
		}
		m.now = g.shut
		m.trace += "l"
	}
	return true
}

// nodes has the names, lam and app of a tree.
func (t *tree) nodes() int {
	switch t.word {
	case "lam":
		return 1 + t.a.nodes()
	case "app":
		return 1 + t.a.nodes() + t.b.nodes()
	}
	return 1
}

// through is how much there is to go through: it can be very much, so that it is no longer counted where it is enough.
func (c *shut) through() int {
	n := c.tree.nodes()
	for _, name := range c.tree.uses(nil) {
		if g, _ := c.find(name); g.shut != nil && n <= 2*impl.TermMax {
			n += g.shut.through()
		}
	}
	return n
}

// whole has the closures in the places of names, in the order of the environment. Only then names can be equal to those
// that are put there, so they are made different first: "#" for those of lams, "%" for those that are put, "$" for opens.
func (c *shut) whole() *tree {
	apart := c.tree.apart()
	for i, name := range apart.free() {
		g, ok := c.find(name)
		if !ok {
			continue
		}
		if g.shut == nil {
			apart = apart.replaced(name, leaf("$"+strconv.Itoa(g.open)))
		} else {
			apart = apart.replaced(name, leaf("%"+strconv.Itoa(i)))
		}
	}
	for i, name := range c.tree.free() {
		if g, _ := c.find(name); g.shut != nil {
			apart = apart.replaced("%"+strconv.Itoa(i), g.shut.whole())
		}
	}
	return apart
}

func (m *engine) opens() int {
	return strings.Count(m.trace, "o")
}

// normal returns nil if MachineNormal fails.
func (m *engine) normal() *tree {
	through := 0
	for _, c := range m.stack {
		through += c.through()
	}
	if through > 2*impl.TermMax {
		return nil
	}
	all := m.now.whole()
	for _, c := range slices.Backward(m.stack) {
		all = app(all, c.whole())
	}
	for i := range m.opens() {
		all = lam("$"+strconv.Itoa(m.opens()-1-i), all)
	}
	if all.atoms() > impl.TermMax {
		return nil
	}
	return all.canon()
}

// machineTrees have all sorts of names, many redexes, terms that are used twice, and terms without head normal term.
var machineTrees = sync.OnceValue(func() []*tree {
	return append(stepTrees(), tightTrees()...)
})

// Each function tells the same of a term as the model does.
func TestMachineModel(t *testing.T) {
	opens, args, lookups := map[int]int{}, map[int]int{}, map[int]int{}
	for _, tree := range machineTrees() {
		m := engineOf(tree)
		if m == nil {
			checkNoMachine(t, tree.text())
			continue
		}
		normal := ""
		if whole := m.normal(); whole != nil {
			normal = whole.text()
		}
		checkMachine(t, machineCase{tree.text(), m.trace + ".", m.now.tree.name, len(m.stack), normal})
		opens[min(m.opens(), 3)]++
		args[min(len(m.stack), 3)]++
		lookups[min(strings.Count(m.trace, "l"), 6)]++
	}
	for n := range 4 {
		if opens[n] < 100 || args[n] < 100 || lookups[n+3] < 40 {
			t.Errorf("the trees have %v opens, %v arguments and %v lookups", opens, args, lookups)
		}
	}
}

// What is gone through is counted as the model does, where it comes close to the greatest number.
func TestMachineModelThrough(t *testing.T) {
	t.Parallel()
	most, least := 0, 100*impl.TermMax
	for _, m := range throughTrees() {
		end := engineOf(m)
		whole := end.normal()
		text := ""
		if whole != nil {
			text = whole.text()
		}
		checkMachine(t, machineCase{m.text(), end.trace + ".", end.now.tree.name, len(end.stack), text})
		through := 0
		for _, c := range end.stack {
			through += c.through()
		}
		if through > 2*impl.TermMax {
			least = min(least, through)
		} else {
			most = max(most, through)
		}
	}
	if most != 2*impl.TermMax || least > most+5 {
		t.Errorf("at most %d are gone through, and at least %d are too much", most, least)
	}
}

// throughTrees give a term from name to name, by lams that use it again and again.
func throughTrees() []*tree {
	var list []*tree
	x, y := leaf("x"), leaf("y")
	for _, put := range []*tree{x, app(x, x), lam("z", x), lam("x", x), app(y, x), lam("x", app(x, y)), app(x, lam("x", app(y, x)))} {
		for _, end := range []*tree{leaf("w"), lam("x", x), app(x, y)} {
			for n := 1; n <= 40; n++ {
				for _, last := range []*tree{app(y, x), app(app(y, x), x), app(app(y, x), leaf("v")), lam("y", app(app(y, app(x, x)), lam("x", app(x, y)))), app(app(app(app(y, x), x), x), x)} {
					m := last
					for range n {
						m = app(lam("x", m), put)
					}
					m = app(lam("x", m), end)
					if m.atoms() <= impl.TermMax {
						list = append(list, m)
					}
				}
			}
		}
	}
	return list
}
