package tests

import (
	"slices"
	"strconv"
	"testing"

	"loop.example/intersectiontypes/impl"
)

func decimal(n int) string {
	return strconv.Itoa(n)
}

// someNames are free, bound, both or neither in the trees.
func someNames() []string {
	return []string{"x", "y", "z0", "z1", "z2", "a1"}
}

func canonOf(t *testing.T, s string) string {
	t.Helper()
	canon, ok := impl.TermCanon(s)
	if !ok {
		t.Fatalf("TermCanon of %q fails", s)
	}
	return canon
}

func freeOf(t *testing.T, s string) []string {
	t.Helper()
	names, ok := impl.TermFree(s)
	if !ok {
		t.Fatalf("TermFree of %q fails", s)
	}
	return names
}

// Each function tells the same of a term as the model does.
func TestTermModel(t *testing.T) {
	for _, m := range someTrees() {
		s := m.text()
		if got := freeOf(t, s); !slices.Equal(got, m.free()) {
			t.Errorf("TermFree of %q returned %q", s, got)
		}
		if got := canonOf(t, s); got != m.canon().text() {
			t.Errorf("TermCanon of %q returned %q", s, got)
		}
		if got := impl.TermSize(s); got != m.size() {
			t.Errorf("TermSize of %q returned %d", s, got)
		}
		uses := m.uses(nil)
		for _, name := range someNames() {
			want := 0
			for _, use := range uses {
				if use == name {
					want++
				}
			}
			if got := impl.TermUses(s, name); got != want {
				t.Errorf("TermUses of %q in %q returned %d", name, s, got)
			}
		}
		checkSpine(t, m)
	}
}

func checkSpine(t *testing.T, m *tree) {
	t.Helper()
	wantLams, wantBody, wantFirst, wantArgs := m.spine()
	lams, body, first, apps, ok := impl.TermParts(m.text())
	if !ok || lams != wantLams || body != wantBody.text() || first != wantFirst.text() || apps != len(wantArgs) {
		t.Errorf("TermParts of %q returned %d, %q, %q, %d, %v", m.text(), lams, body, first, apps, ok)
	}
	args, ok := impl.TermArgs(m.text())
	if !ok || len(args) != len(wantArgs) {
		t.Fatalf("TermArgs of %q returned %q, %v", m.text(), args, ok)
	}
	for i, arg := range args {
		if arg != wantArgs[i].text() {
			t.Errorf("TermArgs of %q returned %q", m.text(), args)
		}
	}
}

func TestTermPutModel(t *testing.T) {
	for _, m := range someTrees() {
		for _, by := range fewTrees() {
			for _, name := range []string{"x", "z0", "z1", "y"} {
				want := m.put(name, by)
				got, ok := impl.TermPut(m.text(), name, by.text())
				if want.atoms() > impl.TermMax {
					if ok || got != "" {
						t.Errorf("TermPut in %q for %q of %q returned %q, %v", m.text(), name, by.text(), got, ok)
					}
				} else if !ok || got != want.text() {
					t.Errorf("TermPut in %q for %q of %q returned %q, %v", m.text(), name, by.text(), got, ok)
				}
			}
		}
	}
}

func TestTermAlikeModel(t *testing.T) {
	var list []*tree
	for size := 0; size <= 2; size++ {
		list = append(list, treesOf(size, []string{"x", "z0", "z1"})...)
	}
	for _, a := range list {
		for _, b := range list {
			want := a.canon().text() == b.canon().text()
			if impl.TermAlike(a.text(), b.text()) != want {
				t.Errorf("TermAlike of %q and %q is %v", a.text(), b.text(), !want)
			}
		}
	}
}

func TestPromise1(t *testing.T) {
	for _, m := range someTrees() {
		s := m.text()
		if !impl.TermValid(s) {
			t.Fatalf("TermValid of %q is false", s)
		}
		if !impl.TermAlike(canonOf(t, s), s) {
			t.Errorf("the canonical term of %q is not alike", s)
		}
		for _, name := range someNames() {
			around := "(lam " + name + " " + s + ")"
			inner, _, _, _, _ := impl.TermParts(s)
			lams, _, _, _, ok := impl.TermParts(around)
			if !ok || !impl.TermValid(around) || lams != inner+1 {
				t.Errorf("%q is no term with one lam more", around)
			}
		}
	}
}

func TestPromise2(t *testing.T) {
	for _, m := range someTrees() {
		s := m.text()
		names := freeOf(t, s)
		for i, name := range names {
			if impl.TermUses(s, name) < 1 {
				t.Errorf("the name %q is free in %q, but not used", name, s)
			}
			if slices.Contains(names[:i], name) {
				t.Errorf("TermFree of %q has the name %q twice", s, name)
			}
			for _, other := range someNames() {
				if slices.Contains(names, other) {
					continue
				}
				put, ok := impl.TermPut(s, name, other)
				want := slices.Clone(names)
				want[i] = other
				if !ok || !slices.Equal(freeOf(t, put), want) {
					t.Errorf("TermPut in %q for %q of %q returned %q, %v", s, name, other, put, ok)
				}
			}
		}
	}
}

func TestPromise3(t *testing.T) {
	for _, m := range someTrees() {
		s := m.text()
		canon := canonOf(t, s)
		if !impl.TermAlike(s, canon) {
			t.Errorf("the canonical term of %q is not alike", s)
		}
		if again := canonOf(t, canon); again != canon {
			t.Errorf("the canonical term of %q is not its own one", s)
		}
		if !slices.Equal(freeOf(t, canon), freeOf(t, s)) || impl.TermSize(canon) != impl.TermSize(s) {
			t.Errorf("the canonical term of %q has other names or another size", s)
		}
	}
}

func TestPromise4(t *testing.T) {
	for _, m := range someTrees() {
		s := m.text()
		next := 0
		other := m.renamed(nil, func() string {
			next++
			return "b" + decimal(next)
		}).text()
		if !impl.TermAlike(s, other) || !impl.TermAlike(other, s) {
			t.Errorf("TermAlike of %q and %q is false", s, other)
		}
		if canonOf(t, s) != canonOf(t, other) || !slices.Equal(freeOf(t, s), freeOf(t, other)) || impl.TermSize(s) != impl.TermSize(other) {
			t.Errorf("%q and %q are alike, but not the same", s, other)
		}
	}
}

func TestPromise5(t *testing.T) {
	for _, m := range someTrees() {
		s := m.text()
		for _, by := range fewTrees() {
			for _, name := range []string{"x", "z0", "y"} {
				put, ok := impl.TermPut(s, name, by.text())
				if !ok {
					continue
				}
				uses := impl.TermUses(s, name)
				if impl.TermSize(put) != impl.TermSize(s)+uses*impl.TermSize(by.text()) {
					t.Errorf("TermPut in %q for %q of %q has the size %d", s, name, by.text(), impl.TermSize(put))
				}
				there := uses > 0 && impl.TermUses(by.text(), name) > 0
				if impl.TermUses(put, name) > 0 != there {
					t.Errorf("TermPut in %q for %q of %q is %q", s, name, by.text(), put)
				}
			}
		}
	}
}

func TestPromise6(t *testing.T) {
	for _, m := range someTrees() {
		s := m.text()
		for _, name := range someNames() {
			if impl.TermUses(s, name) > 0 != slices.Contains(freeOf(t, s), name) {
				t.Errorf("TermUses of %q in %q is %d", name, s, impl.TermUses(s, name))
			}
			if n := impl.TermUses("(lam "+name+" "+s+")", name); n != 0 {
				t.Errorf("TermUses of %q in %q, bound by lam, is %d", name, s, n)
			}
		}
	}
}

func TestPromises7And8(t *testing.T) {
	for _, m := range someTrees() {
		s := m.text()
		lams, body, first, apps, ok := impl.TermParts(s)
		args, okArgs := impl.TermArgs(s)
		if !ok || !okArgs || len(args) != apps {
			t.Fatalf("TermParts or TermArgs of %q fails", s)
		}
		size := lams + apps + impl.TermSize(first)
		applied := first
		for _, arg := range args {
			size += impl.TermSize(arg)
			applied = "(app " + applied + " " + arg + ")"
		}
		if impl.TermSize(s) != size {
			t.Errorf("TermSize of %q is %d, of all parts %d", s, impl.TermSize(s), size)
		}
		if applied != body || lams > impl.TermSize(s) || apps > impl.TermSize(s) {
			t.Errorf("the parts of %q make %q", s, applied)
		}
	}
}

func TestPromise9(t *testing.T) {
	for _, m := range someTrees() {
		s := m.text()
		args, ok := impl.TermArgs(s)
		for _, arg := range args {
			if !impl.TermValid(arg) {
				t.Errorf("TermArgs of %q has %q", s, arg)
			}
		}
		if lams, _, _, _, _ := impl.TermParts(s); lams > 0 {
			continue
		}
		more, okMore := impl.TermArgs("(app " + s + " x)")
		if !ok || !okMore || !slices.Equal(more, append(slices.Clone(args), "x")) {
			t.Errorf("TermArgs of %q applied to a name returned %q", s, more)
		}
	}
}
