/- A range over a function, where each round is told what memory holds of what it is handed; cells of chosen types are kept from round to round. -/
import Derived.RangeFuncNested
import Derived.RangeFuncBound
import Derived.RangeFuncCalls
import Derived.RangeFuncLeaves
import Derived.Shelf.Abstract
import Derived.Shelf.RegionOpen
import Derived.WalkKit
import Derived.OwnWalkIn
import Derived.TacticsInMore
import Derived.LoopNIn
import Derived.LoopIn
namespace Go.Proofs.YtnnnphammfeemaaGreat
set_option linter.unusedVariables false
open Go.RowKit Go.Shelf

/-- Nothing has turned but the loop's two own blocks. -/
structure Steady (D : Nat) (W W' : World) : Prop where
  below : Below D W W'
  same : ∀ q, q < W.heap.size → q ≠ D → q ≠ D + 1 → W'.heap[q]? = W.heap[q]?
/-- What a round keeps: all below n₀, and cells of chosen types from n₁ on. -/
structure Mid (tk : TypeId → Prop) (n₀ n₁ : Nat) (W W' : World) : Prop where
  below : Below n₀ W W'
  same : ∀ (q : Nat) (cs : Array Value) (t : TypeId), n₁ ≤ q → tk t → W.heap[q]? = some (.cells cs t (0, 0)) → W'.heap[q]? = some (.cells cs t (0, 0))
theorem Mid.refl (tk : TypeId → Prop) (n₀ n₁ : Nat) (W : World) : Mid tk n₀ n₁ W W := ⟨Below.refl _ _, fun _ _ _ _ _ h => h⟩
theorem Mid.trans {tk : TypeId → Prop} {n₀ n₁ : Nat} {A B C : World} (h : Mid tk n₀ n₁ A B) (k : Mid tk n₀ n₁ B C) : Mid tk n₀ n₁ A C :=
  ⟨h.below.trans k.below, fun q cs t h1 h2 h3 => k.same q cs t h1 h2 (h.same q cs t h1 h2 h3)⟩
/-- Blocks came, none turned. -/
theorem Mid.fresh {tk : TypeId → Prop} {n₀ n₁ : Nat} {W W' : World} (hn : n₀ ≤ W.heap.size) (h : Below W.heap.size W W') : Mid tk n₀ n₁ W W' :=
  ⟨h.mono hn, fun q cs t _ _ h3 => (h.block q (Array.getElem?_eq_some_iff.1 h3).1).trans h3⟩
theorem Steady.fresh {D : Nat} {W W' : World} (hn : D ≤ W.heap.size) (h : Below W.heap.size W W') : Steady D W W' := ⟨h.mono hn, fun q hq _ _ => h.block q hq⟩
theorem putObj_below (n₀ : Nat) (W : World) (l : Nat) (o : Obj) (hl : n₀ ≤ l) : Below n₀ W (W.putObj l o) :=
  ⟨rfl, rfl, rfl, by simp, fun k hk => World.putObj_heap_other (by omega)⟩
theorem Steady.put {D : Nat} (W : World) (l : Nat) (o : Obj) (hl : l = D ∨ l = D + 1) : Steady D W (W.putObj l o) :=
  ⟨putObj_below _ _ _ _ (by omega), fun q _ h1 h2 => World.putObj_heap_other (by omega)⟩
theorem Mid.put {tk : TypeId → Prop} {n₀ D : Nat} (hn : n₀ ≤ D) (W : World) (l : Nat) (o : Obj) (hl : l = D ∨ l = D + 1) : Mid tk n₀ (D + 2) W (W.putObj l o) :=
  ⟨putObj_below _ _ _ _ (by omega), fun q cs t h1 _ h3 => (World.putObj_heap_other (by omega)).trans h3⟩

/-- A caller's invariant abides what comes to be. -/
def Abide {α : Type} (J : List α → World → Prop) : Prop := ∀ s W W', J s W → Below W.heap.size W W' → J s W'
/-- How a round ends, for the iterator. -/
def Yields {α : Type} (tk : TypeId → Prop) (n₀ n₁ : Nat) (J Jx : List α → World → Prop) (xs : List α) (W : World) (e : Ending) (W' : World) : Prop :=
  (e = .returned (.bool true) ∧ J xs W' ∧ Mid tk n₀ n₁ W W') ∨ (e = .returned (.bool false) ∧ Jx xs W')
/-- An iterator's contract. -/
def Gives {α : Type} (tk : TypeId → Prop) (n₀ n₁ : Nat) (F : Fence) (n : Nat) (P : Program) (gf : Nat) (lb : Array Value) (encs : α → Array Value) (Fx : α → World → Prop) (S Sp : List α → Prop) (N : Nat) (w : World) : Prop :=
  ∀ (l : Nat) (J Jx : List α → World → Prop) (W : World), Below w.heap.size w W → n₁ ≤ W.heap.size → Abide J → Abide Jx →
    (∀ pre x W1, J pre W1 → Fx x W1 → pre.length < N → YieldAt F (n - 1) P l (encs x) W1 (Yields tk n₀ n₁ J Jx (pre ++ [x]) W1)) → J [] W →
    CallsIn F n P gf (#[.func (.yield l) #[] #[]] ++ lb) W fun e W' => (∃ v, e = .returned v) ∧ ((∃ xs, S xs ∧ J xs W') ∨ (∃ pre, Sp pre ∧ Jx pre W'))

/-- The loop's two own blocks lie as they lay. -/
def Ends (D : Nat) (W W' : World) : Prop := W'.heap[D]? = W.heap[D]? ∧ W'.heap[D + 1]? = W.heap[D + 1]?
/-- How the body of a round may be left. -/
def roundEnd {α : Type} (tk : TypeId → Prop) (n₀ D : Nat) (I : List α → World → Prop) (Ix : Code → List α → World → Prop) (xs : List α) (W : World) : Exit → Act → World → Prop
  | .normal, _, W' => Ends D W W' ∧ Mid tk n₀ (D + 2) W W' ∧ I xs W'
  | .ret, _, W' => Ends D W W' ∧ Ix .ret xs W'
  | .exit id, _, W' => Ends D W W' ∧ Ix (.exit id) xs W'
  | _, _, _ => False

/-- The loop's record. -/
def rec' (fn : FuncId) (tmps : Array Value) (ps : Array Tmp) (assign body : Code) (D : Nat) (st : LoopState) (pe : Option Code) : Loop := { state := st, pending := pe, fn := fn, tmps := tmps, params := ps, assign := assign, body := body, defers := D }

variable {F : Fence} {n : Nat} {P : Program}
theorem wp_rounds {α : Type} {g : Operand} {ps : Array Tmp} {assign body : Code} {Q : Exit → Act → World → Prop} {a : Act} {w : World} {gf : Nat} {lb : Array Value}
    {encs : α → Array Value} {Fx : α → World → Prop} {tk : TypeId → Prop} {n₀ : Nat} {S Sp : List α → Prop} {N : Nat}
    (hro : F.round = none) (h1 : 1 ≤ n) (hg : a.eval g = .func (.func gf) #[] lb) (hFg : F.fn gf) (eg : ∀ args w, (callFunc gf args).run P w = .ok (.enter gf args) w)
    (hn : n₀ ≤ w.heap.size) (hseq : Gives tk n₀ (w.heap.size + 2) F (n - 1) P gf lb encs Fx S Sp N w) (hps : ∀ x, (encs x).size = ps.size)
    (I : List α → World → Prop) (Ix : Code → List α → World → Prop)
    (hFx : ∀ x W W', Fx x W → Steady w.heap.size W W' → Fx x W') (hI : ∀ s W W', I s W → Steady w.heap.size W W' → I s W') (hIx : ∀ c s W W', Ix c s W → Steady w.heap.size W W' → Ix c s W') (h0 : I [] w) (a₁ : α → Act)
    (hassign : ∀ (l : Nat) (x : α) (W : World) (K : Act → World → Prop), K (a₁ x) W →
      assign.wpIn (F.inRound l) (n - 1 - 1) P (Exit.then K (fun _ _ _ => False)) { tmps := (ps.zip (encs x)).foldl (fun t (p, v) => t.setIfInBounds p v) a.tmps, defers := [] } W)
    (hbody : ∀ (l : Nat) (pre : List α) (x : α) (W : World), I pre W → Fx x W → pre.length < N → w.heap.size + 2 ≤ W.heap.size → body.wpIn (F.inRound l) (n - 1 - 1) P (roundEnd tk n₀ w.heap.size I Ix (pre ++ [x]) W) (a₁ x) W)
    (hdone : ∀ (xs : List α) (W : World), S xs → I xs W → W.heap[w.heap.size]? = some (.deferred (some [])) → Q .normal { a with defers := { target := .collected w.heap.size, args := #[] } :: a.defers } W)
    (hstop : ∀ (c : Code) (pre : List α) (W : World), Sp pre → Ix c pre W → W.heap[w.heap.size]? = some (.deferred (some [])) → c.wpIn F n P Q { a with defers := { target := .collected w.heap.size, args := #[] } :: a.defers } W) :
    (Code.rangeFunc g ps assign body).wpIn F n P Q a w := by
  refine wpIn_rangeFunc fun fn hfn => ?_
  rw [hro]
  have hD : ∃ D, w.heap.size = D := ⟨_, rfl⟩
  obtain ⟨D, hD⟩ := hD
  have eL := run_enterLoop_outer (P := P) (w := w) fn a.tmps ps assign body
  rw [hD] at eL hn hseq hFx hI hIx hbody hdone hstop
  generalize hW1 : (w.alloc (.deferred (some []))).alloc (.loop { state := .ready, pending := none, fn, tmps := a.tmps, params := ps, assign, body, defers := D }) = W1 at eL
  have s1 : W1.heap.size = D + 2 := by rw [← hW1]; simp [hD]
  have hst : Steady D w W1 := by
    rw [← hW1]
    refine Steady.fresh (by omega) (((Below.refl _ _).alloc (Nat.le_refl _) _).alloc (by simp) _)
  have hl : W1.heap[D + 1]? = some (.loop (rec' fn a.tmps ps assign body D .ready none)) := by
    rw [← hW1, ← hD]
    have := World.alloc_heap_new (w.alloc (.deferred (some []))) (.loop { state := .ready, pending := none, fn, tmps := a.tmps, params := ps, assign, body, defers := w.heap.size })
    rwa [World.size_alloc] at this
  have hd : W1.heap[D]? = some (.deferred (some [])) := by
    rw [← hW1, ← hD]
    exact (Below.heap_alloc _ _ _ (by simp)).trans (World.alloc_heap_new w _)
  refine ⟨D + 1, [{ target := .collected D, args := #[] }], W1, { target := .fn (.func gf) lb, args := #[.func (.yield (D + 1)) #[] #[]] }, W1, gf, #[.func (.yield (D + 1)) #[] #[]] ++ lb, W1, eL, ?_, ?_, ?_, fun _ => h1, ?_⟩
  · simp only [resolve, hg]
    simp [go_sem]
  · intro f' hf'
    simp [Target.leads] at hf'
    subst hf'
    exact hFg
  · simp [invoke, go_sem, eg]
  refine (hseq (D + 1)
    (fun s W => D + 2 ≤ W.heap.size ∧ I s W ∧ W.heap[D + 1]? = some (.loop (rec' fn a.tmps ps assign body D .ready none)) ∧ W.heap[D]? = some (.deferred (some [])))
    (fun s W => D + 2 ≤ W.heap.size ∧ ∃ c, Ix c s W ∧ W.heap[D + 1]? = some (.loop (rec' fn a.tmps ps assign body D .done (some c))) ∧ W.heap[D]? = some (.deferred (some [])))
    W1 ?_ (by omega) ?_ ?_ ?_ ⟨by omega, hI _ _ _ h0 hst, hl, hd⟩).mono ?_
  · rw [hD]; exact hst.below
  · rintro s A B ⟨k1, k2, k3, k4⟩ hb
    have := hb.size
    exact ⟨by omega, hI _ _ _ k2 (Steady.fresh (by omega) hb), (hb.block _ (by omega)).trans k3, (hb.block _ (by omega)).trans k4⟩
  · rintro s A B ⟨k1, c, k2, k3, k4⟩ hb
    have := hb.size
    exact ⟨by omega, c, hIx _ _ _ _ k2 (Steady.fresh (by omega) hb), (hb.block _ (by omega)).trans k3, (hb.block _ (by omega)).trans k4⟩
  · rintro pre x W ⟨k1, k2, k3, k4⟩ hf hlen
    refine ⟨fn, _, assign, body, run_yield (r := rec' fn a.tmps ps assign body D .ready none) k3 (hps x), roundIn_of_wpIn hfn (hassign _ x W _ ⟨_, run_beginRound k3 rfl, ?_⟩)⟩
    have st := Steady.put (D := D) W (D + 1) (.loop { rec' fn a.tmps ps assign body D .ready none with state := .busy }) (.inr rfl)
    have b3 : (W.putObj (D + 1) (.loop { rec' fn a.tmps ps assign body D .ready none with state := .busy })).heap[D + 1]? = some (.loop (rec' fn a.tmps ps assign body D .busy none)) := World.putObj_heap_same (by omega)
    have b4 : (W.putObj (D + 1) (.loop { rec' fn a.tmps ps assign body D .ready none with state := .busy })).heap[D]? = some (.deferred (some [])) := (World.putObj_heap_other (by omega)).trans k4
    have bm : Mid tk n₀ (D + 2) W (W.putObj (D + 1) (.loop { rec' fn a.tmps ps assign body D .ready none with state := .busy })) := Mid.put hn _ _ _ (.inr rfl)
    refine wpIn_mono (hbody _ pre x _ (hI _ _ _ k2 st) (hFx _ _ _ hf st) hlen (by simpa using k1)) ?_
    generalize W.putObj (D + 1) (.loop { rec' fn a.tmps ps assign body D .ready none with state := .busy }) = Wb at b3 b4 bm
    have fin : ∀ (j : Option Code) (W3 : World), Ends D Wb W3 → (Instr.endRound (D + 1) j).run P W3 = .ok (.bool j.isNone) (W3.putObj (D + 1) (.loop (rec' fn a.tmps ps assign body D (if j.isNone then .ready else .done) j))) ∧
        (W3.putObj (D + 1) (.loop (rec' fn a.tmps ps assign body D (if j.isNone then .ready else .done) j))).heap[D + 1]? = some (.loop (rec' fn a.tmps ps assign body D (if j.isNone then .ready else .done) j)) ∧
        (W3.putObj (D + 1) (.loop (rec' fn a.tmps ps assign body D (if j.isNone then .ready else .done) j))).heap[D]? = some (.deferred (some [])) ∧ D + 2 ≤ W3.heap.size := by
      intro j W3 he
      have e3 := he.2.trans b3
      have hlt := (Array.getElem?_eq_some_iff.1 e3).1
      exact ⟨run_endRound j e3, World.putObj_heap_same hlt, (World.putObj_heap_other (by omega)).trans (he.1.trans b4), by omega⟩
    rintro e a3 W3 hp
    cases e with
    | normal =>
      obtain ⟨p1, p2, p3⟩ := hp
      obtain ⟨r1, r2, r3, r4⟩ := fin none W3 p1
      exact ⟨_, _, r1, .inl ⟨rfl, ⟨by simpa using r4, hI _ _ _ p3 (Steady.put _ _ _ (.inr rfl)), r2, r3⟩, (bm.trans p2).trans (Mid.put hn _ _ _ (.inr rfl))⟩⟩
    | ret =>
      obtain ⟨p1, p3⟩ := hp
      obtain ⟨r1, r2, r3, r4⟩ := fin (some .ret) W3 p1
      exact ⟨_, _, r1, .inr ⟨rfl, by simpa using r4, _, hIx _ _ _ _ p3 (Steady.put _ _ _ (.inr rfl)), r2, r3⟩⟩
    | exit id =>
      obtain ⟨p1, p3⟩ := hp
      obtain ⟨r1, r2, r3, r4⟩ := fin (some (.exit id)) W3 p1
      exact ⟨_, _, r1, .inr ⟨rfl, by simpa using r4, _, hIx _ _ _ _ p3 (Steady.put _ _ _ (.inr rfl)), r2, r3⟩⟩
    | goto t => exact hp.elim
    | panic ch => exact hp.elim
    | outgrown => exact hp.elim
  · rintro e W2 ⟨⟨v, rfl⟩, ⟨xs, hS, k1, k2, k3, k4⟩ | ⟨pre, hS, k1, c, k2, k3, k4⟩⟩
    · exact ⟨none, _, run_endLoop k3 (by simp [rec']), hdone xs _ hS (hI _ _ _ k2 (Steady.put _ _ _ (.inr rfl))) ((World.putObj_heap_other (by omega)).trans k4)⟩
    · exact ⟨some c, _, run_endLoop k3 (by simp [rec']), hstop c pre _ hS (hIx _ _ _ _ k2 (Steady.put _ _ _ (.inr rfl))) ((World.putObj_heap_other (by omega)).trans k4)⟩
end Go.Proofs.YtnnnphammfeemaaGreat
