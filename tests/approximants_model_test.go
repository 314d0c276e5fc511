package tests

import (
	"math/rand"
	"sync"
	"testing"

	"loop.example/intersectiontypes/impl"
)

// An approximant is a tree as well, in which om stands for a name.

func (t *tree) isOm() bool {
	return t.word == "" && t.name == "om"
}

// isApprox tells it from the form alone: om, or lams around a name with approximants as its second terms.
func (t *tree) isApprox() bool {
	if t.isOm() {
		return true
	}
	_, _, first, args := t.spine()
	if first.word != "" || first.isOm() {
		return false
	}
	for _, arg := range args {
		if !arg.isApprox() {
			return false
		}
	}
	return t.atoms() <= impl.TermMax && !t.bindsOm()
}

func (t *tree) bindsOm() bool {
	return t.word == "lam" && (t.name == "om" || t.a.bindsOm()) || t.word == "app" && (t.a.bindsOm() || t.b.bindsOm())
}

// marks has what stands at each place of a tree, written without bound names: for each of these the place of its lam.
// A place has a for the left or what is within, and b for the right, from the outside on.
func (t *tree) marks() map[string]string {
	all := map[string]string{}
	t.mark("", nil, all)
	return all
}

func (t *tree) mark(place string, lams map[string]string, all map[string]string) {
	switch t.word {
	case "lam":
		inner := map[string]string{t.name: place}
		for name, other := range lams {
			if name != t.name {
				inner[name] = other
			}
		}
		t.a.mark(place+"a", inner, all)
	case "app":
		t.a.mark(place+"a", lams, all)
		t.b.mark(place+"b", lams, all)
	}
	all[place] = t.word + " "
	if own, ok := lams[t.name]; ok && t.word == "" {
		all[place] += "of " + own
	} else if t.word == "" {
		all[place] += t.name
	}
}

// isBelow tells it from the places: each one of the first tree is in the other one, but for om.
func (t *tree) isBelow(other *tree) bool {
	marks := other.marks()
	for place, mark := range t.marks() {
		if there, ok := marks[place]; mark != " om" && (!ok || there != mark) {
			return false
		}
	}
	return true
}

func (t *tree) meet(other *tree) *tree {
	return t.cut("", t.marks(), other.marks()).canon()
}

// cut has om where the marks differ, and around this as far as it needs to be.
func (t *tree) cut(place string, own, other map[string]string) *tree {
	if there, ok := other[place]; !ok || there != own[place] {
		return leaf("om")
	}
	if t.word == "" {
		return t
	}
	left := t.a.cut(place+"a", own, other)
	if left.isOm() {
		return left
	}
	if t.word == "lam" {
		return lam(t.name, left)
	}
	return app(left, t.b.cut(place+"b", own, other))
}

// allBelow has each approximant that is below an approximant.
func (t *tree) allBelow() []*tree {
	list := []*tree{leaf("om")}
	if t.isOm() {
		return list
	}
	return append(list, t.allBut()...)
}

// allBut has each approximant below one but om itself: its second terms alone are replaced.
func (t *tree) allBut() []*tree {
	var list []*tree
	switch t.word {
	case "lam":
		for _, within := range t.a.allBut() {
			list = append(list, lam(t.name, within))
		}
	case "app":
		seconds := t.b.allBelow()
		for _, first := range t.a.allBut() {
			for _, second := range seconds {
				list = append(list, app(first, second))
			}
		}
	default:
		list = append(list, t)
	}
	return list
}

// holes counts om.
func (t *tree) holes() int {
	n := 0
	for _, mark := range t.marks() {
		if mark == " om" {
			n++
		}
	}
	return n
}

// withArgs has other second terms behind its first term.
func (t *tree) withArgs(change func(arg *tree) *tree) *tree {
	if t.word == "lam" {
		return lam(t.name, t.a.withArgs(change))
	}
	_, _, whole, args := t.spine()
	for _, arg := range args {
		whole = app(whole, change(arg))
	}
	return whole
}

func (t *tree) direct() *tree {
	if !t.isNormal("head") {
		return leaf("om")
	}
	return t.withArgs((*tree).direct)
}

// grown is the tree up to a depth, with names as they come.
func (t *tree) grown(depth int) *tree {
	if depth == 0 {
		return leaf("om")
	}
	last, _ := t.steps("head", impl.StepsMax)
	if !last.isNormal("head") {
		return leaf("om")
	}
	return last.withArgs(func(arg *tree) *tree { return arg.grown(depth - 1) })
}

// wantTree is empty where the tree up to a depth is too large.
func wantTree(t *tree, depth int) string {
	all := t.grown(depth)
	if all.atoms() > impl.TermMax {
		return ""
	}
	return all.canon().text()
}

// randomApprox is the same for the same seed.
func randomApprox(r *rand.Rand, size int, names []string) *tree {
	if r.Intn(5) == 0 {
		return leaf("om")
	}
	lams := r.Intn(min(size, 2) + 1)
	t := leaf(names[r.Intn(len(names))])
	for left := size - lams; left > 0; {
		within := r.Intn(left)
		t = app(t, randomApprox(r, within, names))
		left -= within + 1
	}
	for range lams {
		t = lam(names[r.Intn(len(names))], t)
	}
	return t
}

// pruned is below an approximant, with other bound names.
func (t *tree) pruned(r *rand.Rand) *tree {
	less := t.withArgs(func(arg *tree) *tree {
		if r.Intn(4) == 0 {
			return leaf("om")
		}
		return arg.pruned(r)
	})
	if t.isOm() || r.Intn(2) == 0 {
		return less
	}
	return less.canon()
}

// smallApproxes are all approximants up to a size with some names.
func smallApproxes(size int, names []string) []*tree {
	var list []*tree
	for n := 0; n <= size; n++ {
		for _, m := range treesOf(n, append([]string{"om"}, names...)) {
			if m.isApprox() {
				list = append(list, m)
			}
		}
	}
	return list
}

// approxes are all small approximants and some greater ones, of which some are below each other.
var approxes = sync.OnceValue(func() []*tree {
	list := smallApproxes(2, []string{"x", "z0", "z1"})
	list = append(list, smallApproxes(3, []string{"x"})...)
	r := rand.New(rand.NewSource(8))
	names := []string{"x", "y", "z0", "z1", "z2", "a123"}
	for size := 1; size <= 40; size++ {
		for range 2 {
			m := randomApprox(r, size, names[:2+r.Intn(4)])
			list = append(list, m, m.pruned(r), m.pruned(r), m.canon())
		}
	}
	return list
})

// Each text of a small tree, be it an approximant or none, and of each approximant.
func TestApproxModel(t *testing.T) {
	valid, not := 0, 0
	for size := 0; size <= 3; size++ {
		for _, m := range treesOf(size, []string{"om", "x", "z0"}) {
			if m.isApprox() {
				valid++
				checkApprox(t, m.text(), m.holes(), m.canon().text())
			} else {
				not++
				checkNoApprox(t, m.text())
			}
		}
	}
	if valid < 250 || not < 1000 {
		t.Errorf("%d trees are approximants, and %d none", valid, not)
	}
	for _, m := range approxes() {
		checkApprox(t, m.text(), m.holes(), m.canon().text())
	}
}

// Each two approximants, one of them below the other one or not.
func TestApproxPairModel(t *testing.T) {
	t.Parallel()
	both, one, none, less := 0, 0, 0, 0
	for i, a := range approxes() {
		for j, b := range approxes()[:i+1] {
			if a.size()+b.size() > 10 && i-j > 6 {
				continue
			}
			below, above, meet := a.isBelow(b), b.isBelow(a), a.meet(b)
			checkPair(t, a.text(), b.text(), below, above, meet.text())
			switch {
			case below && above:
				both++
			case below || above:
				one++
			default:
				none++
				if !meet.isOm() {
					less++
				}
			}
		}
	}
	if both < 300 || one < 3000 || none < 3000 || less < 300 {
		t.Errorf("%d pairs are alike, of %d one is below the other one, and of %d none, of which %d meet in more than om", both, one, none, less)
	}
}

// The meet is the greatest of all approximants that are below both.
func TestApproxMeetGreatest(t *testing.T) {
	list := append(smallApproxes(3, []string{"x"}), smallApproxes(1, []string{"x", "y"})...)
	for _, m := range approxes() {
		if m.size() > 3 && m.size() < 12 {
			list = append(list, m)
		}
	}
	for i, a := range list {
		below := a.allBelow()
		for j, b := range list {
			if len(below) > 40 && (i-j > 4 || j-i > 4) {
				continue
			}
			meet, ok := impl.ApproxMeet(a.text(), b.text())
			if !ok || !impl.ApproxBelow(meet, a.text()) || !impl.ApproxBelow(meet, b.text()) {
				t.Errorf("ApproxMeet of %q and %q returned %q, %v", a.text(), b.text(), meet, ok)
			}
			for _, c := range below {
				if c.isBelow(b) && !impl.ApproxBelow(c.text(), meet) {
					t.Errorf("%q is below %q and %q, but not below their meet %q", c.text(), a.text(), b.text(), meet)
				}
			}
		}
	}
}

func TestApproxTermModel(t *testing.T) {
	holes, whole := 0, 0
	for _, m := range machineTrees() {
		want := m.direct().canon()
		if got, ok := impl.ApproxOf(m.text()); !ok || got != want.text() {
			t.Errorf("ApproxOf of %q returned %q, %v, not %q", m.text(), got, ok, want.text())
		}
		if want.holes() == 0 {
			whole++
		} else if !want.isOm() {
			holes++
		}
	}
	if holes < 300 || whole < 1000 {
		t.Errorf("%d direct approximants have om within, and %d none", holes, whole)
	}
}

func TestApproxTreeModel(t *testing.T) {
	t.Parallel()
	grows, none := [7]int{}, 0
	for _, m := range machineTrees() {
		last := ""
		for depth := 0; depth <= 6; depth++ {
			want := wantTree(m, depth)
			if got, ok := impl.ApproxTree(m.text(), depth); ok != (want != "") || got != want {
				t.Errorf("ApproxTree of %q up to %d returned %q, %v, not %q", m.text(), depth, got, ok, want)
			}
			if want != last {
				grows[depth]++
			}
			if want == "" {
				none++
			}
			last = want
		}
	}
	for depth := 1; depth <= 6; depth++ {
		if grows[depth] < 40 {
			t.Errorf("the trees of %v terms grow with the depths", grows)
		}
	}
}
