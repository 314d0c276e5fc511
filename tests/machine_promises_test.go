package tests

import (
	"strings"
	"sync"
	"testing"

	"loop.example/intersectiontypes/impl"
)

// machineTexts are the terms that the promises are tested with: some need too many moves or just as many as there may be,
// some end at terms that are too large, and some are no terms.
var machineTexts = sync.OnceValue(func() []string {
	list := []string{
		endless, growing, "(app x " + endless + ")", "(lam x (app x " + growing + "))", "(app (lam x y) " + growing + ")", "(app " + two + " " + two + ")", "(app (app " + two + " " + two + ") " + two + ")",
		"(app (app " + three + " " + two + ") x)", "(app (app (app " + two + " " + three + ") " + same + ") y)", waits(185), waits(impl.StepsMax), waits(impl.StepsMax + 1), waits(impl.StepsMax + 10),
		leftApps(199), leftApps(200), rightApps(199), deepLams(199), sames(99, "y"), blocks([]int{44, 40, 40, 20}, 15, "y"), blocks([]int{44, 40, 40, 20}, 16, "y"), block(49, "y"), block(50, "y"),
		"(app (lam x (app (app y x) x)) " + leftApps(98) + ")", "(app (lam x (app (app y x) x)) " + leftApps(99) + ")", passes(38, applied("y", "a1", "a1"), "z"), "xy", "(app x)", "",
	}
	for _, end := range lastMoves() {
		for n := 54; n <= 59; n++ {
			list = append(list, passedRun(46, n, end).s, "(lam v "+passedRun(46, n, end).s+")", applied(passedRun(46, n, end).s, "a", "b", "v"))
		}
	}
	for _, m := range machineTrees() {
		list = append(list, m.text())
	}
	return list
})

// movesOf has all moves of a run.
func movesOf(r impl.Run) int {
	return r.Pushes + r.Takes + r.Opens + r.Lookups
}

func TestPromise51(t *testing.T) {
	runs, without := 0, 0
	for _, s := range machineTexts() {
		r, ok := impl.MachineRun(s)
		if !ok {
			if r != (impl.Run{}) {
				t.Errorf("MachineRun of %.80q fails and returned %+v", s, r)
			}
			continue
		}
		runs++
		if r.Pushes != r.Takes+r.Args || r.Opens != r.Lams || r.Name == "" || r.Takes == 0 && r.Lookups != 0 {
			t.Errorf("MachineRun of %.80q returned %+v", s, r)
		}
		if r.Takes == 0 {
			without++
		}
		if !isNameIn(s, r.Name) {
			t.Errorf("MachineRun of %.80q returned the name %q", s, r.Name)
		}
	}
	if runs < 4000 || without < 1000 {
		t.Errorf("%d runs, and %d without takes", runs, without)
	}
}

// isNameIn reports whether a name stands as a term in a text.
func isNameIn(s, name string) bool {
	if s == name {
		return true
	}
	for _, around := range [][2]string{{" ", ")"}, {" ", " "}} {
		if strings.Contains(s, around[0]+name+around[1]) {
			return true
		}
	}
	return false
}

func TestPromise52(t *testing.T) {
	for _, s := range machineTexts() {
		n := impl.MachineMoves(s)
		r, ok := impl.MachineRun(s)
		if n != -1 && (!ok || n != movesOf(r)) || n == -1 && ok {
			t.Errorf("MachineMoves of %.80q returned %d, and MachineRun %+v, %v", s, n, r, ok)
		}
		if n == -1 {
			continue
		}
		canon := canonOf(t, s)
		if m := impl.MachineMoves(canon); m != n {
			t.Errorf("MachineMoves of %.80q returned %d, and of %.80q %d", s, n, canon, m)
		}
		other, _ := impl.MachineRun(canon)
		if r.Name = other.Name; r != other {
			t.Errorf("MachineRun of %.80q returned %+v, and of %.80q %+v", s, r, canon, other)
		}
	}
}

func TestPromise53(t *testing.T) {
	for _, s := range machineTexts() {
		r, okRun := impl.MachineRun(s)
		moves := movesOf(r)
		for _, n := range append(traceEnds(moves), -1, 301) {
			trace, ok := impl.MachineTrace(s, n)
			if ok != (okRun && n >= 0 && n <= 300) || !ok && trace != "" {
				t.Errorf("MachineTrace of %.80q and %d returned %q, %v", s, n, trace, ok)
			}
			if !ok {
				continue
			}
			whole := strings.HasSuffix(trace, ".")
			if whole != (n > moves) || !whole && len(trace) != n || whole && len(trace) != moves+1 {
				t.Errorf("MachineTrace of %.80q, which makes %d moves, and %d returned %q", s, moves, n, trace)
			}
			counted := machineCase{trace: trace, name: r.Name, args: r.Args}.runOf()
			if whole && counted != r {
				t.Errorf("MachineTrace of %.80q and %d returned %q, and MachineRun %+v", s, n, trace, r)
			}
		}
	}
}

func TestPromise54(t *testing.T) {
	both, tooLarge := 0, 0
	for _, s := range machineTexts() {
		normal, ok := impl.MachineNormal(s)
		r, okRun := impl.MachineRun(s)
		if ok && !okRun || !ok && normal != "" {
			t.Errorf("MachineNormal of %.80q returned %.80q, %v", s, normal, ok)
		}
		if !ok && okRun {
			tooLarge++
		}
		if !ok {
			continue
		}
		lams, _, _, args, okParts := impl.TermParts(normal)
		if !okParts || lams != r.Lams || args != r.Args || !impl.NormalIs("head", normal) || canonOf(t, normal) != normal {
			t.Errorf("MachineNormal of %.80q returned %.80q, and MachineRun %+v", s, normal, r)
		}
		want, _, okNormal := impl.NormalOf("head", s)
		if okNormal && want != normal {
			t.Errorf("MachineNormal of %.80q returned %.80q, and NormalOf %.80q", s, normal, want)
		}
		if okNormal {
			both++
		}
	}
	if both < 4000 || tooLarge < 1 {
		t.Errorf("%d terms have a head normal term, and %d one that is too large", both, tooLarge)
	}
}

func TestPromise55(t *testing.T) {
	agree := map[[2]bool]int{}
	for _, s := range machineTexts() {
		_, okRun := impl.MachineRun(s)
		_, _, okNormal := impl.NormalOf("head", s)
		agree[[2]bool{okRun, okNormal}]++
		if got := impl.MachineAgrees(s); got != (okRun && okNormal) {
			t.Errorf("MachineAgrees of %.80q is %v, MachineRun succeeds: %v, NormalOf: %v", s, got, okRun, okNormal)
		}
	}
	if agree[[2]bool{true, true}] < 4000 || agree[[2]bool{true, false}] < 2 || agree[[2]bool{false, true}] < 2 || agree[[2]bool{false, false}] < 50 {
		t.Errorf("MachineRun and NormalOf succeed: %v", agree)
	}
}

func TestPromise56(t *testing.T) {
	t.Parallel()
	both := 0
	for _, s := range machineTexts() {
		visits := impl.MachineVisits(s)
		if moves := impl.MachineMoves(s); visits != moves+1 && (visits != -1 || moves != -1) {
			t.Errorf("MachineVisits of %.80q returned %d, and MachineMoves %d", s, visits, moves)
		}
		d, ok := impl.TightOf("head", s)
		if visits == -1 || !ok {
			continue
		}
		both++
		r, _ := impl.MachineRun(s)
		steps, size, _ := impl.TightBounds("head", s)
		counts, _ := impl.TightShape("head", s)
		if visits != impl.DerivationNodes("head", d) || r.Takes != steps || r.Opens != counts[3] || r.Pushes != counts[2]+counts[4] || r.Lookups != counts[0]-1 || r.Opens+r.Args != size {
			t.Errorf("MachineRun of %.80q returned %+v; its tight derivation has the nodes %v", s, r, counts)
		}
	}
	if both < 4000 {
		t.Errorf("%d terms have a tight derivation", both)
	}
}

func TestPromise57(t *testing.T) {
	both, fewer := 0, 0
	for _, s := range machineTexts() {
		next, ok := impl.StepOf("head", s)
		if !ok {
			continue
		}
		r, okFirst := impl.MachineRun(s)
		behind, okNext := impl.MachineRun(next)
		if !okFirst || !okNext {
			continue
		}
		both++
		if behind.Lookups < r.Lookups {
			fewer++
		}
		if behind.Pushes != r.Pushes-1 || behind.Takes != r.Takes-1 || behind.Lookups > r.Lookups || behind.Opens != r.Opens || behind.Args != r.Args {
			t.Errorf("MachineRun of %.80q returned %+v, and of %.80q %+v", s, r, next, behind)
		}
	}
	if both < 1500 || fewer < 500 {
		t.Errorf("%d terms have a step, and %d of them fewer lookups behind it", both, fewer)
	}
}

// At MovesMax the section of MachineRun counts more than the promise: two more moves than it are too many.
func TestPromise58(t *testing.T) {
	found := map[int]int{}
	for _, s := range machineTexts() {
		n := impl.MachineMoves(s)
		if n == -1 {
			continue
		}
		for _, name := range []string{"v", "x", "z0"} {
			more := "(app (lam " + name + " " + s + ") " + name + ")"
			if impl.TermUses(s, name) > 0 || !impl.TermValid(more) {
				continue
			}
			want := n + 2
			if want > impl.MovesMax {
				want = -1
			}
			if got := impl.MachineMoves(more); got != want {
				t.Errorf("MachineMoves of %.80q returned %d, and of %.80q %d", s, n, more, got)
			}
			found[max(n, impl.MovesMax-4)]++
		}
	}
	for n := impl.MovesMax - 4; n <= impl.MovesMax; n++ {
		if found[n] == 0 {
			t.Errorf("no term makes %d moves", n)
		}
	}
}
