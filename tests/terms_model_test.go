package tests

import (
	"math/rand"
	"slices"
	"strconv"
)

// tree is a term with its names as they are written. What it says of terms is found in another way
// than the program does: all bound names are made different first, and then names are replaced.
type tree struct {
	word string // "lam", "app", or empty for a name
	name string
	a, b *tree
}

func leaf(name string) *tree {
	return &tree{name: name}
}

func lam(name string, within *tree) *tree {
	return &tree{word: "lam", name: name, a: within}
}

func app(a, b *tree) *tree {
	return &tree{word: "app", a: a, b: b}
}

func (t *tree) text() string {
	switch t.word {
	case "lam":
		return "(lam " + t.name + " " + t.a.text() + ")"
	case "app":
		return "(app " + t.a.text() + " " + t.b.text() + ")"
	}
	return t.name
}

func (t *tree) atoms() int {
	switch t.word {
	case "lam":
		return 2 + t.a.atoms()
	case "app":
		return 1 + t.a.atoms() + t.b.atoms()
	}
	return 1
}

func (t *tree) size() int {
	switch t.word {
	case "lam":
		return 1 + t.a.size()
	case "app":
		return 1 + t.a.size() + t.b.size()
	}
	return 0
}

// uses lists the free names, each one as often as it stands.
func (t *tree) uses(bound []string) []string {
	switch t.word {
	case "lam":
		return t.a.uses(append(slices.Clone(bound), t.name))
	case "app":
		return append(t.a.uses(bound), t.b.uses(bound)...)
	}
	if slices.Contains(bound, t.name) {
		return nil
	}
	return []string{t.name}
}

func (t *tree) free() []string {
	var names []string
	for _, name := range t.uses(nil) {
		if !slices.Contains(names, name) {
			names = append(names, name)
		}
	}
	return names
}

// renamed has the names that give returns for the lams, in their order in the text.
func (t *tree) renamed(now map[string]string, give func() string) *tree {
	switch t.word {
	case "lam":
		inner := map[string]string{}
		for name, other := range now {
			inner[name] = other
		}
		inner[t.name] = give()
		return lam(inner[t.name], t.a.renamed(inner, give))
	case "app":
		a := t.a.renamed(now, give)
		return app(a, t.b.renamed(now, give))
	}
	if other, ok := now[t.name]; ok {
		return leaf(other)
	}
	return t
}

// replaced has a tree in the place of each name, bound or free.
func (t *tree) replaced(name string, by *tree) *tree {
	switch t.word {
	case "lam":
		return lam(t.name, t.a.replaced(name, by))
	case "app":
		return app(t.a.replaced(name, by), t.b.replaced(name, by))
	}
	if t.name == name {
		return by
	}
	return t
}

func (t *tree) canon() *tree {
	free := t.free()
	next := 0
	return t.renamed(nil, func() string {
		for slices.Contains(free, "z"+strconv.Itoa(next)) {
			next++
		}
		next++
		return "z" + strconv.Itoa(next-1)
	})
}

func (t *tree) put(name string, by *tree) *tree {
	next := 0
	apart := t.renamed(nil, func() string {
		next++
		return "#" + strconv.Itoa(next)
	})
	return apart.replaced(name, by).canon()
}

// spine takes the tree apart: the lams around, what is within, its first term and its second terms.
func (t *tree) spine() (int, *tree, *tree, []*tree) {
	lams := 0
	for ; t.word == "lam"; t = t.a {
		lams++
	}
	body := t
	var args []*tree
	for ; t.word == "app"; t = t.a {
		args = append([]*tree{t.b}, args...)
	}
	return lams, body, t, args
}

// treesOf lists all trees of a size with some names.
func treesOf(size int, names []string) []*tree {
	var list []*tree
	if size == 0 {
		for _, name := range names {
			list = append(list, leaf(name))
		}
		return list
	}
	for _, within := range treesOf(size-1, names) {
		for _, name := range names {
			list = append(list, lam(name, within))
		}
	}
	for left := 0; left < size; left++ {
		rights := treesOf(size-1-left, names)
		for _, a := range treesOf(left, names) {
			for _, b := range rights {
				list = append(list, app(a, b))
			}
		}
	}
	return list
}

// randomTree is the same for the same seed.
func randomTree(r *rand.Rand, size int, names []string) *tree {
	if size == 0 {
		return leaf(names[r.Intn(len(names))])
	}
	if r.Intn(5) < 2 {
		return lam(names[r.Intn(len(names))], randomTree(r, size-1, names))
	}
	left := r.Intn(size)
	return app(randomTree(r, left, names), randomTree(r, size-1-left, names))
}

// someTrees are all small trees, in which names are bound in each way, and some greater ones.
func someTrees() []*tree {
	var list []*tree
	for size := 0; size <= 3; size++ {
		list = append(list, treesOf(size, []string{"x", "z0", "z1"})...)
	}
	r := rand.New(rand.NewSource(1))
	names := []string{"x", "y", "y1", "z0", "z1", "z2", "z10", "a123"}
	for size := 4; size <= 60; size++ {
		for range 3 {
			list = append(list, randomTree(r, size, names))
		}
	}
	return list
}

// fewTrees are put for names.
func fewTrees() []*tree {
	list := append(treesOf(0, []string{"x", "z0", "z1", "y"}), treesOf(1, []string{"x", "z0"})...)
	return append(list, lam("z1", app(leaf("z0"), leaf("z1"))), app(leaf("z1"), lam("z0", lam("z0", leaf("z0")))))
}
