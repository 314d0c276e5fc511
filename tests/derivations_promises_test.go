package tests

import (
	"slices"
	"strings"
	"sync"
	"testing"

	"loop.example/intersectiontypes/impl"
)

// derivationTexts are the texts that the promises are tested with: derivations of one kind or of both, and others.
var derivationTexts = sync.OnceValue(func() []string {
	list := append(noDerivations(), wide(impl.NodesMax), wide(impl.NodesMax-1), "(fun "+wide(impl.NodesMax-1)+")",
		deepFuns(298), deepFuns(299), withBytes(impl.TextMax-6), withBytes(impl.TextMax-5), withBytes(impl.TextMax), sums(96, 7), sums(96, 8))
	for _, kind := range kinds() {
		for atoms := 1; atoms <= 6; atoms++ {
			for _, d := range proofsWith(atoms, kind, []string{"a", "n"}) {
				list = append(list, d.text())
			}
		}
	}
	for _, c := range derivings() {
		list = append(list, c.proof.text())
	}
	return list
})

// derivesTexts is a text for a derivation and one for a term.
type derivesTexts struct{ kind, s, d string }

// derivationPairs are the derivations and terms that the promises are tested with: many of them derive nothing.
var derivationPairs = sync.OnceValue(func() []derivesTexts {
	var list []derivesTexts
	for _, kind := range kinds() {
		for _, d := range []string{"(ax a)", "(ax n)", "(ax " + typeWith(impl.TypeMax) + ")", "(ax " + typeWith(impl.TypeMax-1) + ")", "(fun (ax a))", "(tfun (ax l))", "(hap (ax n))", "(tap (ax n) (ax n))", "(ax)"} {
			for _, s := range []string{"x", "(lam x x)", "(lam x y)", "(app x y)", "(app x x)", "lam", endless} {
				list = append(list, derivesTexts{kind, s, d})
			}
		}
		z := "(app (app z (app x y)) y)"
		list = append(list, derivesTexts{kind, z, sums(96, 5)}, derivesTexts{kind, z, sums(96, 6)}, derivesTexts{kind, z, sums(96, 7)}, derivesTexts{kind, z, sums(96, 8)},
			derivesTexts{kind, "(lam y " + z + ")", "(tfun " + sums(96, 7) + ")"}, derivesTexts{kind, "(lam y " + z + ")", "(fun " + sums(96, 5) + ")"})
		s, d := threeTaps(impl.NodesMax)
		list = append(list, derivesTexts{kind, s, d})
	}
	for _, c := range derivings() {
		list = append(list, derivesTexts{c.kind, c.tree.text(), c.proof.text()})
		if c.tree.size() <= 2 {
			for _, d := range changedProofs(c.proof) {
				list = append(list, derivesTexts{c.kind, c.tree.text(), d.text()})
			}
		}
	}
	return list
})

// The derivations that are made are of all nodes, with second terms of none, one and several.
func TestDerivingsAreMany(t *testing.T) {
	words, seconds, tight, redexes := map[string]int{}, map[int]int{}, 0, 0
	for _, c := range derivings() {
		for _, d := range c.proof.nodes() {
			words[d.word]++
			if d.word == "app" {
				seconds[min(len(d.below)-1, 3)]++
			}
		}
		if c.proof.claim(c.tree).isTight() {
			tight++
			if !c.tree.isNormal(c.kind) {
				redexes++
			}
		}
	}
	for _, word := range []string{"ax", "fun", "tfun", "app", "hap", "tap"} {
		if words[word] < 1000 {
			t.Errorf("there are %d nodes %s", words[word], word)
		}
	}
	for n := range 4 {
		if seconds[n] < 300 {
			t.Errorf("there are %d app with %d derivations of the second term", seconds[n], n)
		}
	}
	if tight < 1000 || redexes < 300 {
		t.Errorf("there are %d tight derivations, %d of them for terms that are not normal", tight, redexes)
	}
}

// Each function tells the same of a derivation and a term as the model does.
func TestDeriveModel(t *testing.T) {
	t.Parallel()
	for _, c := range derivings() {
		checkDeriveModel(t, c.kind, c.tree, c.proof)
	}
}

// Those of greater trees are too many to be asked all.
func TestDeriveModelChanged(t *testing.T) {
	t.Parallel()
	for i, c := range derivings() {
		for k, d := range changedProofs(c.proof) {
			if c.tree.size() <= 2 || (i+k)%47 == 0 {
				checkDeriveModel(t, c.kind, c.tree, d)
			}
		}
	}
}

// All small derivations for all small terms.
func TestDeriveModelSmall(t *testing.T) {
	var trees []*tree
	for size := 0; size <= 2; size++ {
		trees = append(trees, treesOf(size, []string{"x", "y"})...)
	}
	n := &shape{letter: "n"}
	shapes := []*shape{n, {letter: "a"}, {to: n}, {from: []*shape{n}, to: n}}
	for _, kind := range kinds() {
		for nodes := 1; nodes <= 4; nodes++ {
			for _, d := range proofsOfNodes(nodes, kind, shapes) {
				for _, m := range trees {
					checkDeriveModel(t, kind, m, d)
				}
			}
		}
	}
}

func checkDeriveModel(t *testing.T, kind string, m *tree, d *proof) {
	t.Helper()
	s, text := m.text(), d.text()
	if impl.DerivationValid(kind, text) != d.isOf(kind) {
		t.Fatalf("DerivationValid %s of %q is %v", kind, text, !d.isOf(kind))
	}
	var want *claim
	if d.isOf(kind) {
		want = d.claim(m)
	}
	j, ok := impl.Derive(kind, s, text)
	if ok != (want != nil) || impl.DeriveTight(kind, s, text) != (ok && want.isTight()) {
		t.Fatalf("Derive %s for %q of %q returned %q, %v, DeriveTight %v", kind, s, text, shown(j), ok, impl.DeriveTight(kind, s, text))
	}
	if want == nil {
		if shown(j) != ", 0, 0" {
			t.Fatalf("Derive %s for %q of %q fails with %q", kind, s, text, shown(j))
		}
		return
	}
	if line := shown(want.judgement(m)); shown(j) != line || len(j.Names) != len(j.Bags) {
		t.Fatalf("Derive %s for %q of %q returned %q, not %q", kind, s, text, shown(j), line)
	}
	for _, name := range []string{"x", "y", "z0"} {
		bag := "(m)"
		if slices.Contains(m.free(), name) {
			bag = bagText(want.bagOf(name))
		}
		if got, ok := impl.DeriveBag(kind, s, text, name); !ok || got != bag {
			t.Fatalf("DeriveBag %s for %q of %q and %q returned %q, %v", kind, s, text, name, got, ok)
		}
	}
	checkHereModel(t, derivesTexts{kind, s, text}, m.paths(), want.paths)
}

func checkHereModel(t *testing.T, c derivesTexts, parts []string, stands []string) {
	t.Helper()
	for k, path := range parts {
		want := 0
		for _, other := range stands {
			if other == path {
				want++
			}
		}
		if n, ok := impl.DeriveHere(c.kind, c.s, c.d, k); !ok || n != want {
			t.Fatalf("DeriveHere %s for %q of %q and %d returned %d, %v", c.kind, c.s, c.d, k, n, ok)
		}
	}
	for _, k := range []int{-1, len(parts)} {
		if n, ok := impl.DeriveHere(c.kind, c.s, c.d, k); ok || n != 0 {
			t.Fatalf("DeriveHere %s for %q of %q and %d returned %d, %v", c.kind, c.s, c.d, k, n, ok)
		}
	}
}

// What is told of a text without a term.
func TestDerivationModel(t *testing.T) {
	for _, kind := range kinds() {
		for atoms := 2; atoms <= 7; atoms++ {
			for _, d := range proofsWith(atoms, kind, []string{"a", "n"}) {
				s := d.text()
				checkNodes(t, kind, s, len(d.nodes()))
				if types, ok := impl.DeriveTypes(kind, s); !ok || !slices.Equal(types, d.types()) {
					t.Errorf("DeriveTypes %s of %q returned %q, %v", kind, s, types, ok)
				}
				if impl.DerivePlain(s) != d.isPlain() {
					t.Errorf("DerivePlain of %q is %v", s, !d.isPlain())
				}
			}
		}
	}
}

// All texts that differ in a byte from a derivation: they are derivations if the model makes them.
func TestDerivationEdits(t *testing.T) {
	for _, kind := range kinds() {
		valid := map[string]bool{}
		for atoms := 2; atoms <= 7; atoms++ {
			for _, d := range proofsWith(atoms, kind, []string{"a", "n"}) {
				valid[d.text()] = true
			}
		}
		for atoms := 2; atoms <= 6; atoms++ {
			for _, d := range proofsWith(atoms, kind, []string{"a", "n"}) {
				for _, edit := range editsOf(d.text(), "() >anfhtp1") {
					if impl.DerivationValid(kind, edit) != valid[edit] && !hasOtherLetter(edit) {
						t.Fatalf("DerivationValid %s of %q is %v", kind, edit, !valid[edit])
					}
				}
			}
		}
	}
}

// hasOtherLetter tells of a text whether an atom of it is a letter of which the model makes no types.
func hasOtherLetter(s string) bool {
	for _, atom := range strings.FieldsFunc(s, func(r rune) bool { return r == '(' || r == ')' || r == ' ' }) {
		if len(atom) == 1 && strings.Contains("fhtp", atom) {
			return true
		}
	}
	return false
}

func TestPromise29(t *testing.T) {
	for _, s := range derivationTexts() {
		for _, kind := range kinds() {
			if !impl.DerivationValid(kind, s) {
				continue
			}
			n := impl.DerivationNodes(kind, s)
			types, ok := impl.DeriveTypes(kind, s)
			if n < 1 || n > impl.NodesMax || !ok || n < len(types) || len(types) < 1 {
				t.Errorf("%s %.80q has %d nodes, and %d types, %v", kind, s, n, len(types), ok)
			}
			around := "(fun " + s + ")"
			if impl.DerivationValid(kind, around) != hasRoom(around, n+1) {
				t.Errorf("DerivationValid %s of %.80q in fun is %v", kind, s, impl.DerivationValid(kind, around))
			}
		}
	}
}

// hasRoom tells whether a text with so many nodes keeps to the limits.
func hasRoom(s string, nodes int) bool {
	nest, deepest := 0, 0
	for _, sign := range s {
		switch sign {
		case '(':
			nest++
			deepest = max(deepest, nest)
		case ')':
			nest--
		}
	}
	return nodes <= impl.NodesMax && len(s) <= impl.TextMax && deepest <= 300
}

func TestPromise30(t *testing.T) {
	for _, s := range derivationTexts() {
		for _, kind := range kinds() {
			n := impl.DerivationNodes(kind, s)
			if n != -1 != impl.DerivationValid(kind, s) {
				t.Errorf("DerivationNodes %s of %.80q is %d", kind, s, n)
			}
			around := "(tfun " + s + ")"
			want := n + 1
			if n == -1 || !hasRoom(around, want) {
				want = -1
			}
			if more := impl.DerivationNodes(kind, around); more != want {
				t.Errorf("DerivationNodes %s of %.80q is %d, in tfun %d", kind, s, n, more)
			}
		}
	}
}

func TestPromise31(t *testing.T) {
	t.Parallel()
	for _, c := range derivationPairs() {
		j, ok := impl.Derive(c.kind, c.s, c.d)
		if !ok {
			continue
		}
		if other, ok := impl.Derive(c.kind, canonOf(t, c.s), c.d); !ok || shown(other) != shown(j) {
			t.Errorf("Derive %s for the canonical term of %q of %q returned %q, %v", c.kind, c.s, c.d, shown(other), ok)
		}
		if j.Steps < 0 || j.Size < 0 || !impl.TypeValid(j.Type) || len(j.Names) != len(j.Bags) {
			t.Errorf("Derive %s for %q of %q returned %q", c.kind, c.s, c.d, shown(j))
		}
		for _, bag := range j.Bags {
			if !impl.BagValid(bag) || bag == "(m)" {
				t.Errorf("Derive %s for %q of %q has the bag %q", c.kind, c.s, c.d, bag)
			}
		}
		for _, name := range []string{"x", "y", "a9"} {
			checkAround(t, c, j, name)
		}
	}
}

// checkAround expects of the fun of a derivation, for the term in lam, all but the bag of the name.
func checkAround(t *testing.T, c derivesTexts, j impl.Judgement, name string) {
	t.Helper()
	bag := "(m)"
	if at := slices.Index(j.Names, name); at != -1 {
		bag = j.Bags[at]
		j.Names, j.Bags = slices.Delete(slices.Clone(j.Names), at, at+1), slices.Delete(slices.Clone(j.Bags), at, at+1)
	}
	made, fits := impl.TypeMake(bag, j.Type)
	fits = fits && impl.TermValid("(lam "+name+" "+c.s+")") && hasRoom("(fun "+c.d+")", 1+impl.DerivationNodes(c.kind, c.d))
	j.Type = made
	other, ok := impl.Derive(c.kind, "(lam "+name+" "+c.s+")", "(fun "+c.d+")")
	if ok != fits || ok && shown(other) != shown(j) {
		t.Errorf("Derive %s for %.80q within lam %s of %.80q in fun returned %.80q, %v", c.kind, c.s, name, c.d, shown(other), ok)
	}
}

func TestPromise32(t *testing.T) {
	for _, c := range derivationPairs() {
		j, ok := impl.Derive(c.kind, c.s, c.d)
		if !ok {
			continue
		}
		types, ok := impl.DeriveTypes(c.kind, c.d)
		if !ok {
			t.Errorf("DeriveTypes %s of %q fails", c.kind, c.d)
		}
		for _, bag := range j.Bags {
			for _, a := range typesOfBag(t, bag) {
				at := slices.Index(types, a)
				if at == -1 {
					t.Fatalf("Derive %s for %q of %q has more types than there are ax: %q", c.kind, c.s, c.d, shown(j))
				}
				types = slices.Delete(types, at, at+1)
			}
		}
	}
}

func TestPromise33(t *testing.T) {
	for _, c := range derivationPairs() {
		j, ok := impl.Derive(c.kind, c.s, c.d)
		want := ok && impl.TypeTight(j.Type)
		for _, bag := range j.Bags {
			want = want && impl.TypeTight(bag)
		}
		if impl.DeriveTight(c.kind, c.s, c.d) != want {
			t.Errorf("DeriveTight %s for %q of %q is %v", c.kind, c.s, c.d, !want)
		}
		if !want {
			continue
		}
		normal, n, ok := impl.NormalOf(c.kind, c.s)
		if !ok || n != j.Steps || impl.Measure(c.kind, normal) != j.Size {
			t.Errorf("Derive %s for %q of %q returned %q, and it comes to %q in %d steps, %v", c.kind, c.s, c.d, shown(j), normal, n, ok)
		}
	}
}

func TestPromise34(t *testing.T) {
	for _, s := range derivationTexts() {
		for _, kind := range kinds() {
			types, ok := impl.DeriveTypes(kind, s)
			if ok != impl.DerivationValid(kind, s) {
				t.Errorf("DeriveTypes %s of %.80q: %v", kind, s, ok)
			}
			for _, a := range types {
				if !impl.TypeValid(a) {
					t.Errorf("DeriveTypes %s of %.80q has %.80q", kind, s, a)
				}
			}
		}
	}
}

func TestPromise35(t *testing.T) {
	for _, s := range derivationTexts() {
		valid := impl.DerivationValid("full", s) && !strings.Contains(s, "(tfun ") && !strings.Contains(s, "(tap ")
		if impl.DerivePlain(s) != valid {
			t.Errorf("DerivePlain of %.80q is %v", s, !valid)
		}
		if !impl.DerivePlain(s) {
			continue
		}
		n := impl.DerivationNodes("full", s)
		if !impl.DerivationValid("head", s) || !impl.DerivationValid("full", s) || impl.DerivationNodes("head", s) != n {
			t.Errorf("%.80q is plain, and no derivation of both kinds", s)
		}
		if around := "(fun " + s + ")"; impl.DerivePlain(around) != hasRoom(around, n+1) {
			t.Errorf("DerivePlain of %.80q in fun is %v", s, impl.DerivePlain(around))
		}
	}
}

func TestPromise36(t *testing.T) {
	t.Parallel()
	for _, c := range derivationPairs() {
		j, ok := impl.Derive(c.kind, c.s, c.d)
		for _, name := range append(slices.Clone(j.Names), "x", "y", "z0", "a9") {
			bag, okBag := impl.DeriveBag(c.kind, c.s, c.d, name)
			if okBag != ok {
				t.Errorf("DeriveBag %s for %q of %q and %q: %v", c.kind, c.s, c.d, name, okBag)
			}
			if !ok {
				continue
			}
			want := "(m)"
			if at := slices.Index(j.Names, name); at != -1 {
				want = j.Bags[at]
			}
			if bag != want || !impl.BagValid(bag) || impl.TermUses(c.s, name) == 0 && bag != "(m)" {
				t.Errorf("DeriveBag %s for %q of %q and %q returned %q", c.kind, c.s, c.d, name, bag)
			}
		}
	}
}

func TestPromise37(t *testing.T) {
	t.Parallel()
	for _, c := range derivationPairs() {
		whole, ok := impl.DeriveHere(c.kind, c.s, c.d, 0)
		if _, okDerive := impl.Derive(c.kind, c.s, c.d); ok != okDerive {
			t.Errorf("DeriveHere %s for %q of %q and 0: %v", c.kind, c.s, c.d, ok)
		}
		if !ok {
			continue
		}
		sum, k := whole, 1
		for ; ; k++ {
			n, ok := impl.DeriveHere(c.kind, c.s, c.d, k)
			if !ok {
				break
			}
			sum += n
		}
		if whole != 1 || sum != impl.DerivationNodes(c.kind, c.d) {
			t.Errorf("DeriveHere %s for %q of %q returned %d for the whole term, %d for all parts", c.kind, c.s, c.d, whole, sum)
		}
		if parts := strings.Count(c.s, "(app ") + 1 + impl.TermSize(c.s); k != parts {
			t.Errorf("DeriveHere %s for %q has %d parts", c.kind, c.s, k)
		}
	}
}

func TestPromise38(t *testing.T) {
	for _, c := range derivationPairs() {
		if !impl.DerivePlain(c.d) {
			continue
		}
		head, okHead := impl.Derive("head", c.s, c.d)
		full, okFull := impl.Derive("full", c.s, c.d)
		if okHead != okFull || shown(head) != shown(full) {
			t.Errorf("Derive for %q of %q returned %q, %v for head and %q, %v for full", c.s, c.d, shown(head), okHead, shown(full), okFull)
		}
	}
}
