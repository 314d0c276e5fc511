package tests

import (
	"slices"
	"testing"

	"loop.example/intersectiontypes/impl"
)

// stepTexts are the terms that the promises are tested with: also ones that come to no normal term.
func stepTexts() []string {
	list := []string{endless, growing, "(app x " + endless + ")", "(lam x (app x " + growing + "))", "(app (lam x y) " + endless + ")",
		"(app " + two + " " + two + ")", "(app (app " + three + " " + two + ") x)", waits(impl.StepsMax), waits(impl.StepsMax + 1)}
	for _, m := range stepTrees() {
		list = append(list, m.text())
	}
	return list
}

// Each function tells the same of a term as the model does.
func TestReductionModel(t *testing.T) {
	for _, m := range stepTrees() {
		s := m.text()
		for _, kind := range kinds() {
			checkStepModel(t, kind, m)
			if impl.NormalIs(kind, s) != m.isNormal(kind) {
				t.Errorf("NormalIs %s of %q is %v", kind, s, !m.isNormal(kind))
			}
			want := -1
			if m.isNormal(kind) {
				want = m.measure(kind)
			}
			if n := impl.Measure(kind, s); n != want {
				t.Errorf("Measure %s of %q returned %d", kind, s, n)
			}
		}
		if n := impl.RedexCount(s); n != m.redexes() {
			t.Errorf("RedexCount of %q returned %d", s, n)
		}
		if impl.NeutralIs(s) != (m.word != "lam" && m.isNormal("full")) {
			t.Errorf("NeutralIs of %q is %v", s, impl.NeutralIs(s))
		}
	}
}

func checkStepModel(t *testing.T, kind string, m *tree) {
	t.Helper()
	s := m.text()
	want := ""
	if next := m.step(kind); next != nil {
		want = next.text()
	}
	if got, ok := impl.StepOf(kind, s); got != want || ok != (want != "") {
		t.Errorf("StepOf %s of %q returned %q, %v", kind, s, got, ok)
	}
	for _, n := range []int{0, 2, 30} {
		last, wantCount := m.steps(kind, n)
		if got, count, ok := impl.StepMany(kind, s, n); got != last.text() || count != wantCount || !ok {
			t.Errorf("StepMany %s of %q and %d returned %q, %d, %v", kind, s, n, got, count, ok)
		}
	}
}

func TestNormalModel(t *testing.T) {
	for _, m := range stepTrees() {
		for _, kind := range kinds() {
			want := ""
			last, n := m.steps(kind, impl.StepsMax)
			if last.isNormal(kind) {
				want = last.canon().text()
			} else {
				n = 0
			}
			checkNormal(t, kind, m.text(), want, n)
		}
	}
}

func TestPromise10(t *testing.T) {
	for _, s := range stepTexts() {
		names := freeOf(t, s)
		for _, kind := range kinds() {
			next, ok := impl.StepOf(kind, s)
			if !ok {
				continue
			}
			if canonOf(t, next) != next {
				t.Errorf("StepOf %s of %q is %q, not canonical", kind, s, next)
			}
			for _, name := range freeOf(t, next) {
				if !slices.Contains(names, name) {
					t.Errorf("StepOf %s of %q has the new name %q", kind, s, name)
				}
			}
			if impl.RedexCount(s) < 1 {
				t.Errorf("StepOf %s of %q succeeds without a redex", kind, s)
			}
			if full, ok := impl.StepOf("full", s); !ok || kind == "head" && full != next {
				t.Errorf("the head step of %q is no full step", s)
			}
		}
	}
}

func TestPromise11(t *testing.T) {
	for _, s := range stepTexts() {
		for _, kind := range kinds() {
			for _, n := range []int{0, 1, 2, 3, 17, impl.StepsMax - 1, impl.StepsMax} {
				last, count, ok := impl.StepMany(kind, s, n)
				if !ok || count > n {
					t.Fatalf("StepMany %s of %q and %d returned %d, %v", kind, s, n, count, ok)
				}
				next, okNext := impl.StepOf(kind, last)
				if count < n && okNext {
					t.Errorf("StepMany %s of %q and %d stops at %d steps", kind, s, n, count)
				}
				if !okNext || n == impl.StepsMax {
					continue
				}
				if more, countMore, _ := impl.StepMany(kind, s, n+1); more != next || countMore != count+1 {
					t.Errorf("StepMany %s of %q and %d returned %q, %d", kind, s, n+1, more, countMore)
				}
			}
		}
	}
}

func TestPromise12(t *testing.T) {
	for _, s := range stepTexts() {
		for _, kind := range kinds() {
			if !impl.NormalIs(kind, s) {
				continue
			}
			if next, ok := impl.StepOf(kind, s); ok || next != "" {
				t.Errorf("StepOf %s of the normal term %q is %q", kind, s, next)
			}
			if impl.Measure(kind, s) == -1 {
				t.Errorf("Measure %s of the normal term %q is -1", kind, s)
			}
			if kind == "full" && (!impl.NormalIs("head", s) || impl.RedexCount(s) != 0) {
				t.Errorf("%q is normal for full, but not for head, or has a redex", s)
			}
		}
	}
}

func TestPromise13(t *testing.T) {
	for _, s := range stepTexts() {
		for _, kind := range kinds() {
			normal, n, ok := impl.NormalOf(kind, s)
			if !ok {
				continue
			}
			if again, none, ok := impl.NormalOf(kind, normal); !impl.NormalIs(kind, normal) || !ok || none != 0 || again != normal {
				t.Errorf("NormalOf %s of %q is %q, not its own normal term", kind, s, normal)
			}
			if many, count, ok := impl.StepMany(kind, s, n); !ok || count != n || canonOf(t, many) != normal {
				t.Errorf("StepMany %s of %q and %d comes to %q", kind, s, n, many)
			}
			if kind == "full" {
				if _, less, ok := impl.NormalOf("head", s); !ok || less > n {
					t.Errorf("NormalOf of %q needs %d steps for head and %d for full", s, less, n)
				}
			}
		}
	}
}

func TestPromise14(t *testing.T) {
	for _, s := range stepTexts() {
		for _, kind := range kinds() {
			n := impl.Measure(kind, s)
			if (n != -1) != impl.NormalIs(kind, s) {
				t.Errorf("Measure %s of %q is %d", kind, s, n)
			}
			if n == -1 {
				continue
			}
			if size := impl.TermSize(s); n > size || kind == "full" && n != size {
				t.Errorf("Measure %s of %q is %d, its size %d", kind, s, n, size)
			}
			if more := impl.Measure(kind, "(lam x "+s+")"); more != n+1 {
				t.Errorf("Measure %s of %q is %d, with a lam around %d", kind, s, n, more)
			}
		}
	}
}

func TestPromise15(t *testing.T) {
	for _, s := range stepTexts() {
		lams, _, _, _, _ := impl.TermParts(s)
		if impl.NeutralIs(s) != (impl.NormalIs("full", s) && lams == 0) {
			t.Errorf("NeutralIs of %q is %v", s, impl.NeutralIs(s))
		}
		if impl.NeutralIs(s) && !impl.NeutralIs("(app "+s+" x)") {
			t.Errorf("%q applied to a name is not neutral", s)
		}
	}
}

func TestPromise16(t *testing.T) {
	for _, s := range stepTexts() {
		n := impl.RedexCount(s)
		if (n == 0) != impl.NormalIs("full", s) {
			t.Errorf("RedexCount of %q is %d", s, n)
		}
		if other := impl.RedexCount(canonOf(t, s)); other != n {
			t.Errorf("RedexCount of %q is %d, of its canonical term %d", s, n, other)
		}
		if other := impl.RedexCount("(lam y " + s + ")"); other != n {
			t.Errorf("RedexCount of %q is %d, within lam %d", s, n, other)
		}
	}
}

func TestPromise17(t *testing.T) {
	list := stepTexts()
	for i, s := range list {
		other := list[(i+1)%len(list)]
		if impl.TermEqual(s, other) != impl.TermEqual(other, s) {
			t.Errorf("TermEqual of %q and %q is not the same if they are exchanged", s, other)
		}
		normal, n, ok := impl.NormalOf("full", s)
		if impl.TermEqual(s, s) != ok || impl.TermEqual(s, normal) != ok || impl.TermEqual(normal, s) != ok {
			t.Errorf("TermEqual of %q and its normal term %q is %v", s, normal, !ok)
		}
		if next, okNext := impl.StepOf("full", s); ok && n > 0 && (!okNext || !impl.TermEqual(next, normal)) {
			t.Errorf("TermEqual of %q and %q is false", next, normal)
		}
	}
}

func TestPromise18(t *testing.T) {
	for _, s := range stepTexts() {
		for _, kind := range kinds() {
			normal, n, ok := impl.NormalOf(kind, s)
			within, more, okWithin := impl.NormalOf(kind, "(lam a9 "+s+")")
			if ok != okWithin || more != n {
				t.Errorf("NormalOf %s of %q needs %d steps, %v, within lam %d, %v", kind, s, n, ok, more, okWithin)
			}
			if ok && impl.Measure(kind, within) != impl.Measure(kind, normal)+1 {
				t.Errorf("NormalOf %s of %q within lam is %q", kind, s, within)
			}
		}
	}
}
