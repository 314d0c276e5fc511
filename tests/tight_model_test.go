package tests

import (
	"math/rand"
	"strings"
	"sync"

	"loop.example/intersectiontypes/impl"
)

// Here the tight derivation of a normal tree is made from the outside: its lams, its app on the left, its name.
// The one of another tree is what the steps back of the model make of this.

// tightProof is that of a tree that is normal for the kind.
func (t *tree) tightProof(kind string) *proof {
	lams, _, _, args := t.spine()
	d := ax(&shape{letter: "n"})
	for _, arg := range args {
		if kind == "head" {
			d = proofOf("hap", d)
		} else {
			d = proofOf("tap", d, arg.tightProof(kind))
		}
	}
	for range lams {
		d = proofOf("tfun", d)
	}
	return d
}

// tightWant is what there is to tell of the tight derivation of a tree.
type tightWant struct {
	proof  *proof
	claim  *claim
	steps  int
	normal *tree
}

// wantTightNormal returns nil if TightNormal fails.
func wantTightNormal(kind string, t *tree) *tightWant {
	if !t.isNormal(kind) {
		return nil
	}
	d := t.tightProof(kind)
	c := d.claim(t)
	if c == nil || !d.isText() {
		return nil
	}
	return &tightWant{d, c, 0, t}
}

// wantTight returns nil if TightOf fails.
func wantTight(kind string, t *tree) *tightWant {
	way := []*tree{t}
	for len(way) <= impl.StepsMax {
		next := way[len(way)-1].step(kind)
		if next == nil {
			break
		}
		way = append(way, next)
	}
	steps := len(way) - 1
	want := wantTightNormal(kind, way[steps])
	for i := steps - 1; want != nil && i >= 0; i-- {
		d := want.proof.back(kind, way[i])
		c := d.claim(way[i])
		if c == nil || !d.isText() {
			return nil
		}
		want = &tightWant{d, c, steps, want.normal}
	}
	return want
}

func (d *proof) shape5() []int {
	counts := make([]int, 5)
	at := map[string]int{"ax": 0, "fun": 1, "app": 2, "tfun": 3, "hap": 4, "tap": 4}
	for _, node := range d.nodes() {
		counts[at[node.word]]++
	}
	return counts
}

// shares has, for each free name of a tree, how many types its bag has.
func (c *claim) shares(t *tree) []int {
	var list []int
	for _, name := range t.free() {
		list = append(list, len(c.bagOf(name)))
	}
	return list
}

// twiceBodies are terms in which the name x stands twice or more often, and some in which it does not stand or is lost:
// beside each other and in second terms, within lams, applied to each other, and applied to themselves.
func twiceBodies() []*tree {
	x, y, z := leaf("x"), leaf("y"), leaf("z")
	return []*tree{
		y, lam("z", y), x, lam("z", x),
		app(x, x), app(app(x, x), x), app(x, app(x, x)), app(app(x, x), y), app(app(x, y), x), app(app(x, x), app(x, x)),
		app(app(y, x), x), app(y, app(y, app(x, x))), app(app(app(y, x), x), x), app(y, app(x, app(x, y))), app(app(y, app(x, z)), app(x, y)),
		lam("z", app(x, app(x, z))), lam("z", app(app(z, x), x)), app(app(y, lam("z", x)), lam("z", app(x, z))), app(lam("z", app(z, z)), x),
		app(lam("z", app(app(z, x), z)), x), app(lam("z", y), app(x, x)), app(lam("z", app(x, x)), x), app(app(lam("z", z), x), x),
		app(x, lam("x", app(x, x))), app(lam("x", app(app(x, x), x)), x), app(app(x, lam("z", app(z, x))), x),
	}
}

// twicePuts are terms to be used there: names and normal terms, redexes, and terms with no normal term of both kinds or of one.
func twicePuts() []*tree {
	x, y, z := leaf("x"), leaf("y"), leaf("z")
	same := lam("y", y)
	double := lam("x", app(x, x))
	return []*tree{
		y, app(y, z), same, lam("y", z), lam("y", lam("z", y)), lam("y", lam("z", app(y, z))), lam("y", lam("z", app(z, y))), lam("y", app(app(y, z), y)),
		lam("f", lam("x", app(leaf("f"), app(leaf("f"), x)))), double, lam("y", lam("z", app(app(y, z), z))),
		app(same, z), app(same, same), app(double, y), app(double, same), app(lam("y", lam("z", z)), x), app(lam("y", app(app(z, y), y)), app(same, x)), app(y, app(same, z)),
		lam("y", app(same, y)), lam("y", app(z, app(double, y))),
		app(double, double), app(z, app(double, double)), lam("y", app(double, double)), app(lam("z", y), app(double, double)),
	}
}

// twiceTrees use terms twice, as the whole tree and within others.
func twiceTrees() []*tree {
	var list []*tree
	y := leaf("y")
	for i, body := range twiceBodies() {
		for k, put := range twicePuts() {
			redex := app(lam("x", body), put)
			list = append(list, redex)
			around := []*tree{lam("y", redex), app(redex, y), app(y, redex), app(app(redex, lam("z", leaf("z"))), y), app(app(y, leaf("x")), lam("z", redex)), app(lam("w", app(leaf("w"), leaf("w"))), redex)}
			list = append(list, around[(i+k)%len(around)])
		}
	}
	return list
}

// tightTrees are all small trees, greater ones with many redexes, redexes at all places, and ones that use terms twice.
var tightTrees = sync.OnceValue(func() []*tree {
	var list []*tree
	for size := 0; size <= 3; size++ {
		list = append(list, treesOf(size, []string{"x", "y"})...)
	}
	r := rand.New(rand.NewSource(7))
	names := []string{"x", "y", "z0", "z1"}
	for size := 3; size <= 36; size++ {
		for range 16 {
			list = append(list, randomRedexes(r, size, names[:2+r.Intn(3)]))
		}
	}
	for i, redex := range someRedexes() {
		places := placesOf(redex)
		list = append(list, redex, places[1+i%(len(places)-1)])
	}
	return append(list, twiceTrees()...)
})

// sames has n times the term that leaves what it is applied to, around another term.
func sames(n int, s string) string {
	return strings.Repeat("(app "+same+" ", n) + s + strings.Repeat(")", n)
}

// block puts a term for a name that is used n times, in second terms within each other, and a term at the end.
// It takes n+1 steps to this. Its tight derivation has 4n+2 nodes more than that of this.
func block(n int, end string) string {
	return "(app (lam f " + strings.Repeat("(app f ", n) + end + strings.Repeat(")", n) + ") " + same + ")"
}

// blockProof is the tight derivation of a block, with that of its end and the type of this.
func blockProof(n int, end string, a string) string {
	return "(app (fun " + strings.Repeat("(app (ax (> (m "+a+") "+a+")) ", n) + end + strings.Repeat(")", n+1) + strings.Repeat(" (fun (ax "+a+"))", n) + ")"
}

// blocks is a block in another one, and so on, within lams.
func blocks(uses []int, lams int, end string) string {
	for _, n := range uses {
		end = block(n, end)
	}
	return strings.Repeat("(lam v ", lams) + end + strings.Repeat(")", lams)
}

func blocksProof(uses []int, lams int, end string, a string) string {
	for _, n := range uses {
		end = blockProof(n, end, a)
	}
	return strings.Repeat("(tfun ", lams) + end + strings.Repeat(")", lams)
}
