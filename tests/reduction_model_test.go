package tests

import (
	"math/rand"
	"strconv"

	"loop.example/intersectiontypes/impl"
)

func kinds() []string {
	return []string{"head", "full"}
}

func (t *tree) isRedex() bool {
	return t.word == "app" && t.a.word == "lam"
}

// apart has another name for each lam, so that a step can put a term for a name without a look at names.
func (t *tree) apart() *tree {
	next := 0
	return t.renamed(nil, func() string {
		next++
		return "#" + strconv.Itoa(next)
	})
}

// stepApart needs a tree whose lams all have names of their own.
func (t *tree) stepApart(kind string) (*tree, bool) {
	if t.isRedex() {
		return t.a.a.replaced(t.a.name, t.b), true
	}
	switch t.word {
	case "lam":
		within, ok := t.a.stepApart(kind)
		return lam(t.name, within), ok
	case "app":
		if a, ok := t.a.stepApart(kind); ok {
			return app(a, t.b), true
		}
		if kind == "full" {
			b, ok := t.b.stepApart(kind)
			return app(t.a, b), ok
		}
	}
	return nil, false
}

// isNormal tells it from the form alone: what a normal term of a kind looks like.
func (t *tree) isNormal(kind string) bool {
	_, _, first, args := t.spine()
	if first.word == "lam" && len(args) > 0 {
		return false
	}
	for _, arg := range args {
		if kind == "full" && !arg.isNormal(kind) {
			return false
		}
	}
	return true
}

func (t *tree) redexes() int {
	n := 0
	if t.isRedex() {
		n++
	}
	if t.a != nil {
		n += t.a.redexes()
	}
	if t.b != nil {
		n += t.b.redexes()
	}
	return n
}

func (t *tree) measure(kind string) int {
	lams, _, _, args := t.spine()
	if kind == "head" {
		return lams + len(args)
	}
	return t.size()
}

// step returns nil if there is none, or what results is no term.
func (t *tree) step(kind string) *tree {
	next, ok := t.apart().stepApart(kind)
	if !ok || next.atoms() > impl.TermMax {
		return nil
	}
	return next.canon()
}

func (t *tree) steps(kind string, n int) (*tree, int) {
	for i := range n {
		next := t.step(kind)
		if next == nil {
			return t, i
		}
		t = next
	}
	return t, n
}

// randomRedexes is a random tree in which many app are redexes.
func randomRedexes(r *rand.Rand, size int, names []string) *tree {
	if size == 0 {
		return leaf(names[r.Intn(len(names))])
	}
	switch r.Intn(4) {
	case 0:
		return lam(names[r.Intn(len(names))], randomRedexes(r, size-1, names))
	case 1:
		left := r.Intn(size)
		return app(randomRedexes(r, left, names), randomRedexes(r, size-1-left, names))
	}
	if size == 1 {
		return app(leaf(names[0]), leaf(names[1]))
	}
	within := r.Intn(size - 1)
	return app(lam(names[r.Intn(len(names))], randomRedexes(r, within, names)), randomRedexes(r, size-2-within, names))
}

// stepTrees are all small trees, and greater ones with many redexes.
func stepTrees() []*tree {
	list := someTrees()
	r := rand.New(rand.NewSource(2))
	names := []string{"x", "y", "z0", "z1", "z2"}
	for size := 2; size <= 40; size++ {
		for range 12 {
			list = append(list, randomRedexes(r, size, names[:2+r.Intn(4)]))
		}
	}
	return list
}
