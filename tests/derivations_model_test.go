package tests

import (
	"math/rand"
	"slices"
	"strings"
	"sync"

	"loop.example/intersectiontypes/impl"
)

// proof is a derivation. What it derives is found in another way than the program does:
// each node makes a claim of its own out of those of the nodes below it, with bags as lists of uses.
type proof struct {
	word  string
	shape *shape // of an ax
	below []*proof
}

func ax(a *shape) *proof {
	return &proof{word: "ax", shape: a}
}

func proofOf(word string, below ...*proof) *proof {
	return &proof{word: word, below: below}
}

func (d *proof) text() string {
	parts := []string{d.word}
	if d.word == "ax" {
		parts = append(parts, d.shape.text())
	}
	for _, e := range d.below {
		parts = append(parts, e.text())
	}
	return "(" + strings.Join(parts, " ") + ")"
}

// nodes lists all nodes in the order of the text.
func (d *proof) nodes() []*proof {
	list := []*proof{d}
	for _, e := range d.below {
		list = append(list, e.nodes()...)
	}
	return list
}

func (d *proof) isOf(kind string) bool {
	for _, e := range d.nodes() {
		if e.word == "hap" && kind != "head" || e.word == "tap" && kind != "full" || e.isMalformed() {
			return false
		}
	}
	return true
}

func (d *proof) isMalformed() bool {
	n := len(d.below)
	switch d.word {
	case "fun", "tfun", "hap":
		return n != 1
	case "tap":
		return n != 2
	case "app":
		return n == 0
	}
	return n != 0
}

func (d *proof) isPlain() bool {
	for _, e := range d.nodes() {
		if !slices.Contains([]string{"ax", "fun", "app"}, e.word) {
			return false
		}
	}
	return true
}

func (d *proof) types() []string {
	var list []string
	for _, e := range d.nodes() {
		if e.word == "ax" {
			list = append(list, e.shape.text())
		}
	}
	return list
}

type use struct {
	name  string
	shape *shape
}

// claim is what a node derives for a tree.
type claim struct {
	uses        []use
	to          *shape
	steps, size int
	paths       []string // to the part of the tree that each node stands for
}

func (c *claim) bagOf(name string) []*shape {
	var list []*shape
	for _, u := range c.uses {
		if u.name == name {
			list = append(list, u.shape)
		}
	}
	return list
}

func (c *claim) without(name string) []use {
	var list []use
	for _, u := range c.uses {
		if u.name != name {
			list = append(list, u)
		}
	}
	return list
}

func (c *claim) fits() bool {
	for _, u := range c.uses {
		if bagAtoms(c.bagOf(u.name)) > impl.TypeMax {
			return false
		}
	}
	return c.to.atoms() <= impl.TypeMax
}

func (c *claim) isTight() bool {
	for _, u := range c.uses {
		if !u.shape.isTight() {
			return false
		}
	}
	return c.to.isTight()
}

func (a *shape) isTight() bool {
	return a.letter == "n" || a.letter == "l"
}

func areTight(list []*shape) bool {
	return !slices.ContainsFunc(list, func(a *shape) bool { return !a.isTight() })
}

// claim returns nil if the node derives nothing for the tree.
func (d *proof) claim(t *tree) *claim {
	var c *claim
	switch {
	case d.word == "ax" && t.word == "":
		c = &claim{uses: []use{{t.name, d.shape}}, to: d.shape}
	case (d.word == "fun" || d.word == "tfun") && t.word == "lam":
		c = d.claimOfLam(t)
	case d.word != "ax" && d.word != "fun" && d.word != "tfun" && t.word == "app":
		c = d.claimOfApp(t)
	}
	if c == nil {
		return nil
	}
	c.paths = append(c.paths, "")
	if !c.fits() {
		return nil
	}
	return c
}

func (d *proof) claimOfLam(t *tree) *claim {
	within := d.below[0].claim(t.a)
	if within == nil {
		return nil
	}
	bag := within.bagOf(t.name)
	c := sumOf(within)
	c.uses = within.without(t.name)
	if d.word == "fun" {
		c.to = &shape{from: bag, to: within.to}
		return c
	}
	if !areTight(bag) || !within.to.isTight() {
		return nil
	}
	c.to = &shape{letter: "l"}
	c.size++
	return c
}

func (d *proof) claimOfApp(t *tree) *claim {
	first := d.below[0].claim(t.a)
	if first == nil {
		return nil
	}
	var seconds []*claim
	for _, e := range d.below[1:] {
		second := e.claim(t.b)
		if second == nil {
			return nil
		}
		seconds = append(seconds, second)
	}
	c := sumOf(first, seconds...)
	if d.word == "app" {
		if first.to.letter != "" || !slices.Equal(textsOf(typesOf(seconds)), sortedTexts(first.to.from)) {
			return nil
		}
		c.to = first.to.to
		c.steps++
		return c
	}
	if first.to.letter != "n" || !areTight(typesOf(seconds)) {
		return nil
	}
	c.to = first.to
	c.size++
	return c
}

func typesOf(claims []*claim) []*shape {
	var list []*shape
	for _, c := range claims {
		list = append(list, c.to)
	}
	return list
}

// sumOf has no type yet.
func sumOf(first *claim, seconds ...*claim) *claim {
	sum := &claim{uses: slices.Clone(first.uses), steps: first.steps, size: first.size}
	for _, path := range first.paths {
		sum.paths = append(sum.paths, "a"+path)
	}
	for _, c := range seconds {
		sum.uses = append(sum.uses, c.uses...)
		sum.steps += c.steps
		sum.size += c.size
		for _, path := range c.paths {
			sum.paths = append(sum.paths, "b"+path)
		}
	}
	return sum
}

// judgement is that of a claim for a tree.
func (c *claim) judgement(t *tree) impl.Judgement {
	j := impl.Judgement{Type: c.to.text(), Steps: c.steps, Size: c.size}
	for _, name := range t.free() {
		if bag := c.bagOf(name); len(bag) > 0 {
			j.Names = append(j.Names, name)
			j.Bags = append(j.Bags, bagText(bag))
		}
	}
	return j
}

// paths lists those to all parts in the order of the text.
func (t *tree) paths() []string {
	list := []string{""}
	if t.a != nil {
		for _, path := range t.a.paths() {
			list = append(list, "a"+path)
		}
	}
	if t.b != nil {
		for _, path := range t.b.paths() {
			list = append(list, "b"+path)
		}
	}
	return list
}

// proofsWith lists all derivations of a kind with so many atoms.
func proofsWith(atoms int, kind string, letters []string) []*proof {
	var list []*proof
	if atoms < 2 {
		return nil
	}
	for _, a := range shapesOf(atoms-1, letters) {
		list = append(list, ax(a))
	}
	for _, below := range rowsOf(atoms-1, func(n int) []*proof { return proofsWith(n, kind, letters) }) {
		list = append(list, nodesOver(below, kind)...)
	}
	return list
}

// proofsOfNodes lists all derivations of a kind with so many nodes.
func proofsOfNodes(nodes int, kind string, shapes []*shape) []*proof {
	var list []*proof
	if nodes == 1 {
		for _, a := range shapes {
			list = append(list, ax(a))
		}
		return list
	}
	for _, below := range rowsOf(nodes-1, func(n int) []*proof { return proofsOfNodes(n, kind, shapes) }) {
		list = append(list, nodesOver(below, kind)...)
	}
	return list
}

func nodesOver(below []*proof, kind string) []*proof {
	var list []*proof
	for _, word := range []string{"app", "fun", "tfun", "hap", "tap"} {
		if d := proofOf(word, below...); d.isOf(kind) {
			list = append(list, d)
		}
	}
	return list
}

// rowsOf lists all rows of at least one derivation that come to n together; of has those that come to a number alone.
func rowsOf(n int, of func(int) []*proof) [][]*proof {
	if n == 0 {
		return nil
	}
	var list [][]*proof
	for first := 1; first <= n; first++ {
		others := rowsOf(n-first, of)
		for _, d := range of(first) {
			if first == n {
				list = append(list, []*proof{d})
			}
			for _, row := range others {
				list = append(list, append([]*proof{d}, row...))
			}
		}
	}
	return list
}

// maker makes derivations that derive something, some of all that there are.
type maker struct {
	kind string
	r    *rand.Rand
	most int // how many it goes on with for each part of a tree
}

// proofs makes derivations for a tree. bound has, for some names, the types of what they are bound to,
// and args the types of what the tree is applied to, the next one last.
func (m *maker) proofs(t *tree, bound map[string][]*shape, args [][]*shape) []*proof {
	var list []*proof
	switch t.word {
	case "":
		list = m.proofsOfName(t, bound, args)
	case "lam":
		list = m.proofsOfLam(t, bound, args)
	case "app":
		list = m.proofsOfApp(t, bound, args)
	}
	list = slices.DeleteFunc(list, func(d *proof) bool { return d.claim(t) == nil })
	m.r.Shuffle(len(list), func(i, j int) { list[i], list[j] = list[j], list[i] })
	return list[:min(m.most, len(list))]
}

func (m *maker) proofsOfName(t *tree, bound map[string][]*shape, args [][]*shape) []*proof {
	shapes, ok := bound[t.name]
	if !ok {
		shapes = axShapes()
		for range 6 {
			shapes = append(shapes, m.functionsOf(args))
		}
	}
	var list []*proof
	for _, a := range shapes {
		list = append(list, ax(a))
	}
	return list
}

// functionsOf makes a type that can be applied to all of args.
func (m *maker) functionsOf(args [][]*shape) *shape {
	to := &shape{letter: []string{"a", "l", "n"}[m.r.Intn(3)]}
	for _, shapes := range args {
		var from []*shape
		for range m.r.Intn(4) {
			if len(shapes) > 0 {
				from = append(from, shapes[m.r.Intn(len(shapes))])
			}
		}
		to = &shape{from: from, to: to}
	}
	return to
}

func (m *maker) proofsOfLam(t *tree, bound map[string][]*shape, args [][]*shape) []*proof {
	inner := map[string][]*shape{}
	for name, shapes := range bound {
		inner[name] = shapes
	}
	delete(inner, t.name)
	if n := len(args); n > 0 {
		inner[t.name] = args[n-1]
		args = args[:n-1]
	}
	var list []*proof
	for _, d := range m.proofs(t.a, inner, args) {
		list = append(list, proofOf("fun", d), proofOf("tfun", d))
	}
	return list
}

func (m *maker) proofsOfApp(t *tree, bound map[string][]*shape, args [][]*shape) []*proof {
	seconds := m.proofs(t.b, bound, nil)
	of := map[string][]*proof{}
	var shapes []*shape
	for _, d := range seconds {
		a := d.claim(t.b).to
		of[a.text()] = append(of[a.text()], d)
		shapes = append(shapes, a)
	}
	var list []*proof
	for _, d := range m.proofs(t.a, bound, append(slices.Clone(args), shapes)) {
		a := d.claim(t.a).to
		if a.letter == "" {
			list = append(list, m.appOf(d, sortedTexts(a.from), of))
		}
		if m.kind == "head" {
			list = append(list, proofOf("hap", d))
			continue
		}
		for _, second := range seconds {
			list = append(list, proofOf("tap", d, second))
		}
	}
	return list
}

// appOf leaves out types that nothing derives; then the app derives nothing.
func (m *maker) appOf(first *proof, types []string, of map[string][]*proof) *proof {
	below := []*proof{first}
	for _, text := range types {
		if n := len(of[text]); n > 0 {
			below = append(below, of[text][m.r.Intn(n)])
		}
	}
	return proofOf("app", below...)
}

func axShapes() []*shape {
	n, l, a := &shape{letter: "n"}, &shape{letter: "l"}, &shape{letter: "a"}
	id := &shape{from: []*shape{n}, to: n}
	return []*shape{n, n, l, a, {to: n}, id, {from: []*shape{a}, to: a}, {from: []*shape{n, n}, to: l}, {from: []*shape{id, n}, to: a}}
}

// deriving is a derivation of a kind that derives something for a tree.
type deriving struct {
	kind  string
	tree  *tree
	proof *proof
}

// derivings are made once, since many tests go through them.
var derivings = sync.OnceValue(func() []deriving {
	var list []deriving
	for _, kind := range kinds() {
		m := &maker{kind: kind, r: rand.New(rand.NewSource(4)), most: 12}
		for _, t := range deriveTrees() {
			for _, d := range m.proofs(t, nil, nil) {
				list = append(list, deriving{kind, t, d})
			}
		}
	}
	return list
})

// deriveTrees are all small trees, greater ones with redexes, and numbers that are applied.
func deriveTrees() []*tree {
	var list []*tree
	for size := 0; size <= 3; size++ {
		list = append(list, treesOf(size, []string{"x", "y"})...)
	}
	r := rand.New(rand.NewSource(5))
	for size := 3; size <= 20; size++ {
		for range 12 {
			list = append(list, randomRedexes(r, size, []string{"x", "y", "z0", "z1"}[:2+r.Intn(3)]))
		}
	}
	number := lam("f", lam("x", app(leaf("f"), app(leaf("f"), leaf("x")))))
	double := lam("x", app(leaf("x"), leaf("x")))
	return append(list,
		app(number, leaf("y")), app(app(number, leaf("y")), leaf("z")), app(number, number),
		app(app(number, lam("x", leaf("x"))), leaf("y")), app(double, lam("x", leaf("x"))), app(double, double),
		app(lam("x", leaf("y")), app(double, double)), app(app(lam("x", lam("y", app(app(leaf("y"), leaf("x")), leaf("x")))), leaf("y")), leaf("x")))
}

// changedProofs are derivations with one node changed: most of them derive nothing for the tree.
func changedProofs(d *proof) []*proof {
	var list []*proof
	for i := range d.nodes() {
		for _, change := range changes() {
			at := i
			list = append(list, d.changed(&at, change))
		}
	}
	return list
}

// changed has one node changed: the one that comes behind so many others.
func (d *proof) changed(at *int, change func(*proof) *proof) *proof {
	*at--
	if *at == -1 {
		return change(d)
	}
	other := *d
	other.below = nil
	for _, e := range d.below {
		other.below = append(other.below, e.changed(at, change))
	}
	return &other
}

func changes() []func(*proof) *proof {
	list := []func(*proof) *proof{
		func(d *proof) *proof { return proofOf("fun", d) },
		func(d *proof) *proof { return proofOf("app", d) },
		func(d *proof) *proof { return ax(&shape{letter: "n"}) },
		func(d *proof) *proof { return ax(&shape{to: &shape{letter: "n"}}) },
		func(d *proof) *proof {
			other := *d
			other.below = slices.Clone(d.below)
			slices.Reverse(other.below[min(1, len(other.below)):])
			return &other
		},
		func(d *proof) *proof {
			other := *d
			other.below = d.below[:max(0, len(d.below)-1)]
			return &other
		},
		func(d *proof) *proof {
			other := *d
			other.below = append(slices.Clone(d.below), d.below[max(0, len(d.below)-1):]...)
			return &other
		},
	}
	for _, word := range []string{"fun", "tfun", "app", "hap", "tap"} {
		list = append(list, func(d *proof) *proof {
			if d.word == "ax" {
				return d
			}
			return proofOf(word, d.below...)
		})
	}
	return list
}
