package impl

import "testing"

// Steps of derivations know a part of a term by its pointer. So no part may stand at two places,
// also where a step put one term for several names.
func TestStepPartsApart(t *testing.T) {
	for _, s := range []string{
		"(app (lam x (app x x)) y)", "(app (lam x (app x x)) (lam y y))", "(app (lam x (app (app x x) y)) (lam a (lam b (app a b))))", "(app y (app (lam x (app (app x x) x)) (app z (lam w w))))",
		"(lam y (app (lam x (lam z (app (app x x) z))) (app y (lam w (app w y)))))", "(app (lam x (app x x)) (lam x (app x x)))", "(app (lam x (app y y)) z)",
	} {
		for _, k := range []kind{headKind, fullKind} {
			m, _ := readTerm(s)
			for range 5 {
				checkPartsApart(t, m)
				next, ok := m.step(k)
				if !ok {
					break
				}
				m = next
			}
		}
	}
}

func checkPartsApart(t *testing.T, m *term) {
	t.Helper()
	there := map[*term]bool{}
	for _, part := range m.contexts() {
		if there[part] {
			t.Errorf("a part of %q stands at two places", m.text(nil))
		}
		there[part] = true
	}
}
